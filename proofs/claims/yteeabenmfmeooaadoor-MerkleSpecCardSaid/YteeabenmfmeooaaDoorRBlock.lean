/-
  Digest, the reference: block.
-/
import Derived.Test.YteeabenmfmeooaaDoorRor
import Derived.BigQuiet
import Derived.Deep.QuietTactic
import Derived.Laws.BitsAllLaws
import Derived.Test.YteeabenmfmeooaaDoorDig
import Derived.Deep.RegionHeld2
namespace Go.Proofs.YteeabenmfmeooaaDoor
open Go Go.RowKit
theorem or_comm32 (x y : Int) : bits .or .u32 x y = bits .or .u32 y x := by
  unfold bits
  dsimp only
  rw [BitVec.or_comm]
theorem rrorq_any (v : Int) (n : Nat) (h0 : 0 < n) (h1 : n < 32) (w : World) : Calls Tryd.prog 64 #[.int .u32 v, .int .i64 (n : Int)] w fun e w' => e = .returned (.int .u32 (rotr v n)) ∧ ∃ m, w' = w.drewN m := by
  have e1 : IntKind.i64.wrap (32 - (n : Int)) = ((32 - n : Nat) : Int) := by rw [IntWalk.i64_in _ (by omega)]; omega
  have i1 : (0 : Int) ≤ (n : Int) := by omega
  have i2 : (0 : Int) ≤ ((32 - n : Nat) : Int) := by omega
  go_enter Tryd.func64, Tryd.ntmps64
  go_wp2_with fail
  go_quiet (fail)
  go_wp2_with fail
  go_ret
  refine ⟨?_, _, rfl⟩
  unfold rotr rotl
  rw [show 32 - (32 - n) = n by omega, or_comm32]
  rfl
theorem rror_any (v : Int) (n : Nat) (h0 : 0 < n) (h1 : n < 32) (w : World) : Calls Tryd.prog 64 #[.int .u32 v, .int .i64 (n : Int)] w fun e w' => e = .returned (.int .u32 (rotr v n)) ∧ Below w.heap.size w w' := (rrorq_any v n h0 h1 w).mono fun e w' ⟨he, m, hm⟩ => ⟨he, by rw [hm]; exact ⟨rfl, rfl, rfl, Nat.le_refl _, fun _ _ => rfl⟩⟩
theorem rrorq6 (v : Int) (w : World) : Calls Tryd.prog 64 #[.int .u32 v, .int .i64 6] w fun e w' => e = .returned (.int .u32 (rotr v 6)) ∧ ∃ m, w' = w.drewN m := rrorq_any v 6 (by decide) (by decide) w
theorem rrorq11 (v : Int) (w : World) : Calls Tryd.prog 64 #[.int .u32 v, .int .i64 11] w fun e w' => e = .returned (.int .u32 (rotr v 11)) ∧ ∃ m, w' = w.drewN m := rrorq_any v 11 (by decide) (by decide) w
theorem rrorq25 (v : Int) (w : World) : Calls Tryd.prog 64 #[.int .u32 v, .int .i64 25] w fun e w' => e = .returned (.int .u32 (rotr v 25)) ∧ ∃ m, w' = w.drewN m := rrorq_any v 25 (by decide) (by decide) w
theorem rror6 (v : Int) (w : World) : Calls Tryd.prog 64 #[.int .u32 v, .int .i64 6] w fun e w' => e = .returned (.int .u32 (rotr v 6)) ∧ Below w.heap.size w w' := rror_any v 6 (by decide) (by decide) w
theorem rror11 (v : Int) (w : World) : Calls Tryd.prog 64 #[.int .u32 v, .int .i64 11] w fun e w' => e = .returned (.int .u32 (rotr v 11)) ∧ Below w.heap.size w w' := rror_any v 11 (by decide) (by decide) w
theorem rror25 (v : Int) (w : World) : Calls Tryd.prog 64 #[.int .u32 v, .int .i64 25] w fun e w' => e = .returned (.int .u32 (rotr v 25)) ∧ Below w.heap.size w w' := rror_any v 25 (by decide) (by decide) w
theorem rror2 (v : Int) (w : World) : Calls Tryd.prog 64 #[.int .u32 v, .int .i64 2] w fun e w' => e = .returned (.int .u32 (rotr v 2)) ∧ Below w.heap.size w w' := rror_any v 2 (by decide) (by decide) w
theorem rror13 (v : Int) (w : World) : Calls Tryd.prog 64 #[.int .u32 v, .int .i64 13] w fun e w' => e = .returned (.int .u32 (rotr v 13)) ∧ Below w.heap.size w w' := rror_any v 13 (by decide) (by decide) w
theorem rror22 (v : Int) (w : World) : Calls Tryd.prog 64 #[.int .u32 v, .int .i64 22] w fun e w' => e = .returned (.int .u32 (rotr v 22)) ∧ Below w.heap.size w w' := rror_any v 22 (by decide) (by decide) w
theorem rror7 (v : Int) (w : World) : Calls Tryd.prog 64 #[.int .u32 v, .int .i64 7] w fun e w' => e = .returned (.int .u32 (rotr v 7)) ∧ Below w.heap.size w w' := rror_any v 7 (by decide) (by decide) w
theorem rror18 (v : Int) (w : World) : Calls Tryd.prog 64 #[.int .u32 v, .int .i64 18] w fun e w' => e = .returned (.int .u32 (rotr v 18)) ∧ Below w.heap.size w w' := rror_any v 18 (by decide) (by decide) w
theorem rror17 (v : Int) (w : World) : Calls Tryd.prog 64 #[.int .u32 v, .int .i64 17] w fun e w' => e = .returned (.int .u32 (rotr v 17)) ∧ Below w.heap.size w w' := rror_any v 17 (by decide) (by decide) w
theorem rror19 (v : Int) (w : World) : Calls Tryd.prog 64 #[.int .u32 v, .int .i64 19] w fun e w' => e = .returned (.int .u32 (rotr v 19)) ∧ Below w.heap.size w w' := rror_any v 19 (by decide) (by decide) w
end Go.Proofs.YteeabenmfmeooaaDoor
namespace Go.Proofs.YteeabenmfmeooaaDoor
open Go Go.RowKit
theorem or_add32 (a y k K : Nat) (hK : K = 2 ^ k) (hy : y < K) (h : a * K + y < 4294967296) : bits .or .u32 ((a * K : Nat) : Int) (y : Int) = ((a * K + y : Nat) : Int) := by
  subst hK
  rw [u32_or_nat _ _ (by omega) (by omega)]
  congr 1
  rw [Nat.mul_comm a, ← Nat.two_pow_add_eq_or_of_lt hy]
set_option maxRecDepth 100000 in
theorem rword_pure (a b c d : Nat) (ha : a < 256) (hb : b < 256) (hc : c < 256) (hd : d < 256) :
    bits .or .u32 (bits .or .u32 (bits .or .u32 ((a : Int) * 16777216) ((b : Int) * 65536)) ((c : Int) * 256)) (d : Int) =
    bits .or .u32 (bits .or .u32 (bits .or .u32 (bits .or .u32 (0 * 2 ^ 8 % 4294967296) (a : Int) * 2 ^ 8 % 4294967296) (b : Int) * 2 ^ 8 % 4294967296) (c : Int) * 2 ^ 8 % 4294967296) (d : Int) := by
  have e1 : bits .or .u32 ((a : Int) * 16777216) ((b : Int) * 65536) = ((a * 16777216 + b * 65536 : Nat) : Int) := by
    have := or_add32 a (b * 65536) 24 16777216 (by decide) (by omega) (by omega)
    simpa using this
  have e2 : bits .or .u32 ((a * 16777216 + b * 65536 : Nat) : Int) ((c : Int) * 256) = ((a * 16777216 + b * 65536 + c * 256 : Nat) : Int) := by
    have := or_add32 (a * 256 + b) (c * 256) 16 65536 (by decide) (by omega) (by omega)
    rw [show (a * 256 + b) * 65536 = a * 16777216 + b * 65536 by omega] at this
    simpa using this
  have e3 : bits .or .u32 ((a * 16777216 + b * 65536 + c * 256 : Nat) : Int) (d : Int) = ((a * 16777216 + b * 65536 + c * 256 + d : Nat) : Int) := by
    have := or_add32 (a * 65536 + b * 256 + c) d 8 256 (by decide) hd (by omega)
    rw [show (a * 65536 + b * 256 + c) * 256 = a * 16777216 + b * 65536 + c * 256 by omega] at this
    exact this
  rw [e1, e2, e3]
  have g0 : bits .or .u32 (0 * 2 ^ 8 % 4294967296) (a : Int) = (a : Int) := by
    have := or_add32 0 a 8 256 (by decide) ha (by omega)
    simpa using this
  have step : ∀ x y : Nat, y < 256 → x < 16777216 → bits .or .u32 ((x : Int) * 2 ^ 8 % 4294967296) (y : Int) = ((x * 256 + y : Nat) : Int) := fun x y hy hx => by
    have := or_add32 x y 8 256 (by decide) hy (by omega)
    rw [show (x : Int) * 2 ^ 8 % 4294967296 = ((x * 256 : Nat) : Int) by omega]
    exact this
  rw [g0, step a b hb (by omega), step _ c hc (by omega), step _ d hd (by omega)]
  congr 1
  omega
theorem rword_any (b o : Nat) (f : Nat → Int) (cap : Nat) (w : World) (hn2 : cap ≤ 9223372036854775807) (hf : ∀ k, 0 ≤ f k ∧ f k < 256) (hc : ∀ k, k < 4 → w.cell? ⟨b, o + k, none⟩ = some (.int .u8 (f k))) :
    Calls Tryd.prog 63 #[.slice (some ⟨b, o, none⟩) 4 cap] w fun e w' => e = .returned (.int .u32 (wacc f 4)) ∧ Below w.heap.size w w' := by
  have h0 := hc 0 (by omega)
  have h1 := hc 1 (by omega)
  have h2 := hc 2 (by omega)
  have h3 := hc 3 (by omega)
  rw [Nat.add_zero] at h0
  have f0 := hf 0
  have f1 := hf 1
  have f2 := hf 2
  have f3 := hf 3
  have HF : Hid (∀ k, 0 ≤ f k ∧ f k < 256) := Lib.hid hf
  clear hc hf
  go_enter Tryd.func63, Tryd.ntmps63
  go_wp2_with fail
  go_quiet (fail)
  go_wp2_with fail
  go_ret
  refine ⟨?_, ⟨rfl, rfl, rfl, Nat.le_refl _, fun _ _ => rfl⟩⟩
  obtain ⟨n0, e0⟩ : ∃ n : Nat, f 0 = (n : Int) := ⟨(f 0).toNat, by omega⟩
  obtain ⟨n1, e1⟩ : ∃ n : Nat, f 1 = (n : Int) := ⟨(f 1).toNat, by omega⟩
  obtain ⟨n2, e2⟩ : ∃ n : Nat, f 2 = (n : Int) := ⟨(f 2).toNat, by omega⟩
  obtain ⟨n3, e3⟩ : ∃ n : Nat, f 3 = (n : Int) := ⟨(f 3).toNat, by omega⟩
  have hp := rword_pure n0 n1 n2 n3 (by omega) (by omega) (by omega) (by omega)
  show Ending.returned (Value.int .u32 (bits .or .u32 (bits .or .u32 (bits .or .u32 (f 0 * 16777216) (f 1 * 65536)) (f 2 * 256)) (f 3))) = _
  simp only [wacc]
  rw [e0, e1, e2, e3, hp]
end Go.Proofs.YteeabenmfmeooaaDoor
namespace Go.Proofs.YteeabenmfmeooaaDoor
open Go Go.RowKit
/-- the words of a state lie in block g, as an array -/
def S6 (w : World) (g : Nat) (s : R8) : Prop := w.heap[g]? = some (.cells (cells8 s) 73 (0, 0))
theorem S6.cell {w : World} {g : Nat} {s : R8} (hs : S6 w g s) {k : Nat} (h : k < 8) : w.cell? ⟨g, k, none⟩ = some (.int .u32 (nth8 s k)) := by
  unfold S6 at hs
  have := cells8_get s h
  simp [World.cell?, hs, this]
theorem S6.below {w w' : World} {g : Nat} {s : R8} (h : S6 w g s) (hb : Below w.heap.size w w') : S6 w' g s := (hb.block g (Array.getElem?_eq_some_iff.1 h).1).trans h
theorem S6.chg {w w' : World} {g k : Nat} {s : R8} (h : S6 w g s) (hb : Chg k w w') (hk : g ≠ k) : S6 w' g s := (hb.block g (Array.getElem?_eq_some_iff.1 h).1 hk).trans h
theorem Lay.below {w w' : World} {g : Nat} {xs : List Int} (h : Lay w g xs) (hb : Below w.heap.size w w') : Lay w' g xs := (hb.block g h.lt).trans h
def zero8 : R8 := ⟨0, 0, 0, 0, 0, 0, 0, 0⟩
/-- the boxes of a block's call -/
structure RB (w wr : World) (y : R8) : Prop where
  a : S6 wr w.heap.size y
  z : S6 wr (w.heap.size + 1) zero8
  below : Below w.heap.size w wr
  size : w.heap.size + 3 ≤ wr.heap.size
theorem RB.later {w wr w' : World} {y : R8} (h : RB w wr y) (hb : Below wr.heap.size wr w') : RB w w' y := ⟨h.a.below hb, h.z.below hb, h.below.trans (hb.mono h.below.size), Nat.le_trans h.size hb.size⟩
theorem RB.chg {w wr w' : World} {y : R8} {k : Nat} (h : RB w wr y) (hb : Chg k wr w') (hk : w.heap.size + 2 ≤ k) : RB w w' y :=
  ⟨h.a.chg hb (by omega), h.z.chg hb (by omega), Chg.below h.below h.below.size (by omega) hb, Nat.le_trans h.size hb.size⟩
theorem chg_set (g o : Nat) (w : World) (v : Value) : Chg g w (w.setCell ⟨g, o, none⟩ v) := (Chg.refl g w).set (.inl rfl) v
theorem rb_start (w : World) (y : R8) : RB w (((w.alloc (.cells (cells8 y) 73)).alloc (.cells (cells8 zero8) 73)).alloc (.cells (arr []) 76)) y ∧ Lay (((w.alloc (.cells (cells8 y) 73)).alloc (.cells (cells8 zero8) 73)).alloc (.cells (arr []) 76)) (w.heap.size + 2) [] := by
  have h0 : S6 (w.alloc (.cells (cells8 y) 73)) w.heap.size y := heap_alloc_new _ _
  have h1 : S6 ((w.alloc (.cells (cells8 y) 73)).alloc (.cells (cells8 zero8) 73)) (w.heap.size + 1) zero8 := by
    have := heap_alloc_new (w.alloc (.cells (cells8 y) 73)) (.cells (cells8 zero8) 73)
    rw [World.size_alloc] at this
    exact this
  have h2 : Lay (((w.alloc (.cells (cells8 y) 73)).alloc (.cells (cells8 zero8) 73)).alloc (.cells (arr []) 76)) (w.heap.size + 2) [] := by
    have := heap_alloc_new ((w.alloc (.cells (cells8 y) 73)).alloc (.cells (cells8 zero8) 73)) (.cells (arr []) 76)
    rw [World.size_alloc, World.size_alloc] at this
    exact this
  exact ⟨⟨(h0.below (one_new _ _)).below (one_new _ _), h1.below (one_new _ _), (((Below.refl _ _).alloc (Nat.le_refl _) _).alloc (by simp) _).alloc (by simp; omega) _, by simp⟩, h2⟩
def kcsA : Value := .agg (arr kcs)
theorem kcs_len : kcs.length = 64 := by decide
set_option maxRecDepth 100000 in
set_option maxHeartbeats 1000000 in
theorem rnum_any (w : World) : Calls Tryd.prog 65 #[] w fun e w' => e = .returned (.agg (arr kcs)) ∧ Below w.heap.size w w' := by
  have HL : Hid (Lay (w.alloc (.cells (arr []) 76)) w.heap.size []) := Lib.hid (heap_alloc_new _ _)
  go_enter Tryd.func65, Tryd.ntmps65
  go_wp2_with (refine lay_store2 rfl (.tmp 0) (.tmp 1) rfl w.heap.size [] kcs HL.out (Nat.zero_le _) kcs_len rfl rfl ?_; rintro w2 hl2 hc2)
  exact bodyPost_ret (results_cell_row rfl _ _ w.heap.size 76 _ (0, 0) _ rfl hl2 Tryd.underlying76 rfl (by rw [arr_size _ (Nat.le_of_eq kcs_len)]; exact info76)) rfl ⟨rfl, Chg.below (one_new w _) (one_new w _).size (Nat.le_refl _) hc2⟩
end Go.Proofs.YteeabenmfmeooaaDoor
namespace Go.Proofs.YteeabenmfmeooaaDoor
open Go Go.RowKit
theorem lay_S {U : World} {g k : Nat} {xs : List Int} {v x1 x3 : Int} (h : Lay U g xs) (hk : xs.length = k) (h64 : k < 64) (h16 : 16 ≤ k) (e1 : xs.getD (k - 16) 0 = x1) (e3 : xs.getD (k - 7) 0 = x3) :
    (U.setCell ⟨g, k, none⟩ (.int .u32 v)).cell? ⟨g, k - 16, none⟩ = some (.int .u32 x1) ∧ (U.setCell ⟨g, k, none⟩ (.int .u32 v)).cell? ⟨g, k - 7, none⟩ = some (.int .u32 x3) ∧
    ((U.setCell ⟨g, k, none⟩ (.int .u32 v)).cell? ⟨g, k, none⟩).isSome = true ∧ (U.setCell ⟨g, k, none⟩ (.int .u32 v)).frozen? ⟨g, k, none⟩ = false := by
  have hs := h.set (by omega) v
  rw [hk] at hs
  have ha : ∀ i, i < k → (xs ++ [v]).getD i 0 = xs.getD i 0 := fun i hi => by
    rw [List.getD_eq_getElem?_getD, List.getD_eq_getElem?_getD, List.getElem?_append_left (by omega)]
  refine ⟨?_, ?_, ?_, hs.free k⟩
  · rw [hs.get (by simp; omega) (k - 16) (by omega), ha _ (by omega), e1]
  · rw [hs.get (by simp; omega) (k - 7) (by omega), ha _ (by omega), e3]
  · rw [hs.get (by simp; omega) k (by omega)]
    rfl
theorem mod3 (a b c d : Int) : ((((a + b) % 4294967296 + c) % 4294967296 + d) % 4294967296) = (a + b + c + d) % 4294967296 := by omega
theorem info73 : (Tryd.prog.info? 73).map (·.size) = some 8 := by kernel_rfl
theorem s6_store {ops : Array Oper} {rest : List Oper} {o : Oper} {a : Act} {w : World} {Q : Exit → Act → World → Prop} (hgd : o.guard = none) (x y : Operand) (ho : o.op = .store 73 x y) (g : Nat) (s0 s : R8) (hl : S6 w g s0) (hp : a.eval x = .pointer (some ⟨g, 0, none⟩)) (hv : a.eval y = .agg (cells8 s))
    (h : ∀ w2 : World, S6 w2 g s → Chg g w w2 → wpList Tryd.prog ops Q rest (a.put o.dst undef) w2) : wpList Tryd.prog ops Q (o :: rest) a w :=
  wpList_store_row hgd 73 x y ho g (cells8 s) hp hv 73 (cells8 s0) hl info73 rfl (by simp [cells8, Value.oneCell']) (h _ (setRow_heap _ _ _ _ _ _ hl) (chg_row _ _ _))
theorem below_drew0 {m : Nat} {w w' : World} (h : Below m w w') : Below m w w'.drew := ⟨h.os, h.tape, h.output, h.size, h.block⟩
theorem lay_store3 {ops : Array Oper} {rest : List Oper} {o : Oper} {a : Act} {w : World} {Q : Exit → Act → World → Prop} (hgd : o.guard = none) (x y : Operand) (ho : o.op = .store 76 x y) (g : Nat) (hl : Lay w g []) (hp : a.eval x = .pointer (some ⟨g, 0, none⟩)) (hv : a.eval y = .agg (arr []))
    (h : ∀ w2 : World, Hid (Lay w2 g []) → Hid (Chg g w w2) → wpList Tryd.prog ops Q rest (a.put o.dst undef) w2) : wpList Tryd.prog ops Q (o :: rest) a w :=
  wpList_store_row hgd 76 x y ho g (arr []) hp hv 76 (arr []) hl (by rw [arr_size [] (by simp)]; exact info76) rfl (arr_one []) (h _ (Lib.hid (setRow_heap _ _ _ _ _ _ hl)) (Lib.hid (chg_row _ _ _)))
def RBlkR (f : Nat → Int) (y : R8) (w : World) (e : Ending) (w' : World) : Prop := e = .returned (.agg (cells8 (mix 8 y (rnds (sched f 64) y 64)))) ∧ Below w.heap.size w w'
set_option maxRecDepth 100000 in
set_option maxHeartbeats 2000000 in
theorem rblock_any (b o : Nat) (f : Nat → Int) (y : R8) (cap : Nat) (w : World) (hcap : 64 ≤ cap) (hcap2 : cap ≤ 9223372036854775807) (hf : ∀ k, 0 ≤ f k ∧ f k < 256) (hb : b < w.heap.size) (hc : ∀ k, k < 64 → w.cell? ⟨b, o + k, none⟩ = some (.int .u8 (f k))) :
    Calls Tryd.prog 58 #[.agg (cells8 y), .slice (some ⟨b, o, none⟩) 64 cap] w (RBlkR f y w) := by
  have HC := Lib.hid hc
  have HF := Lib.hid hf
  clear hc hf
  go_enter Tryd.func58, Tryd.ntmps58
  have H0 := Lib.hid (rb_start w y)
  go_wp2_with (refine lay_store3 rfl (.tmp 5) (.tmp 22) rfl (w.heap.size + 2) H0.out.2 rfl rfl ?_; rintro w2 hl2 hc2)
  have hl2' := hl2.out
  have hrb2 := H0.out.1.chg hc2.out (Nat.le_refl _)
  clear hc2 H0 hl2
  have hblt := hb
  go_wp2_with fail
  go_loopw [6] (fun i wr => ∃ k : Nat, k ≤ 16 ∧ i = .int .i64 k ∧ Hid (Lay wr (w.heap.size + 2) (sched f k)) ∧ Hid (RB w wr y)) (fun i _ => 16 - (intOf i).toNat)
  case atStart => exact ⟨0, Nat.zero_le _, rfl, Lib.hid hl2', Lib.hid hrb2⟩
  case round =>
    clear hl2' hrb2
    obtain ⟨k, hk, rfl, hlay, hrb⟩ := hrel
    have hlen := sched_len f k
    by_cases hlt : k < 16
    · have hw := rword_any b (o + 4 * k) (fun j => f (k * 4 + j)) (cap - 4 * k) wr (by omega) (fun j => HF.out _) (fun j hj => by
        rw [hrb.out.below.cell (p := ⟨b, o + 4 * k + j, none⟩) hb, Nat.add_assoc, Nat.mul_comm 4 k]
        exact HC.out _ (by omega))
      have HW := Lib.hid hw
      have c1 : decide ((k : Int) < 16) = true := by simp; omega
      have HLN := Lib.hid hlen
      clear hw hlen
      have i1 : (4 : Int) * (k : Int) ≤ 4 * (k : Int) + 4 := by omega
      have i2 : (4 : Int) * (k : Int) + 4 ≤ (cap : Int) := by omega
      go_wp2_with fail
      rw [show 4 * k + 4 - 4 * k = 4 by omega]
      refine HW.out.mono ?_
      rintro e w' ⟨rfl, hb'⟩
      have hl' := hlay.out.below hb'
      have hr' := Lib.hid (hrb.out.later hb')
      have g5 := hl'.get (by rw [HLN.out]; omega) k (by omega)
      have g6 := hl'.free k
      have hset := fun v => hl'.set (by rw [HLN.out]; omega) v
      rw [HLN.out] at hset
      have HS := Lib.hid hset
      clear hset hl' HW hb'
      go_wp2_with fail
      go_roundw
      case rel => exact ⟨k + 1, by omega, by go_num, by have := HS.out (wacc (fun j => f (k * 4 + j)) 4); exact Lib.hid (by simpa [sched, hlt] using this), Lib.hid (hr'.out.chg (chg_set _ _ _ _) (Nat.le_refl _))⟩
      case measure => simp [intOf]; omega
    · have hlay : Lay wr (w.heap.size + 2) (sched f 16) := by rw [← show k = 16 from by omega]; exact hlay.out
      have c1 : decide ((k : Int) < 16) = false := by simp; omega
      have HL16 := Lib.hid hlay
      clear hlay hlen
      go_wp2_with fail
      go_loopw [7] (fun i wr => ∃ k : Nat, 16 ≤ k ∧ k ≤ 64 ∧ i = .int .i64 k ∧ Hid (Lay wr (w.heap.size + 2) (sched f k)) ∧ Hid (RB w wr y)) (fun i _ => 64 - (intOf i).toNat)
      case atStart => exact ⟨16, by omega, by omega, rfl, HL16, hrb⟩
      case round =>
        clear HL16 hrb hlt c1
        clear hk
        obtain ⟨k, hk0, hk, rfl, hlay, hrb⟩ := hrel
        by_cases hlt : k < 64
        · have hlen := sched_len f k
          have c1 : decide ((k : Int) < 64) = true := by simp; omega
          have n1 : sched f (k + 1) = sched f k ++ [nextw (sched f k)] := by simp only [sched]; rw [if_neg (by omega)]
          unfold nextw at n1
          rw [hlen] at n1
          have g2 := hlay.out.get (by omega) (k - 15) (by omega)
          have g4 := hlay.out.get (by omega) (k - 2) (by omega)
          have s15 : IntKind.i64.wrap ((k : Int) - 15) = ((k - 15 : Nat) : Int) := by rw [IntWalk.i64_in _ (by omega)]; omega
          have s2 : IntKind.i64.wrap ((k : Int) - 2) = ((k - 2 : Nat) : Int) := by rw [IntWalk.i64_in _ (by omega)]; omega
          have s16 : IntKind.i64.wrap ((k : Int) - 16) = ((k - 16 : Nat) : Int) := by rw [IntWalk.i64_in _ (by omega)]; omega
          have s7 : IntKind.i64.wrap ((k : Int) - 7) = ((k - 7 : Nat) : Int) := by rw [IntWalk.i64_in _ (by omega)]; omega
          have b15 : ((k - 15 : Nat) : Int) < 64 := by omega
          have b2 : ((k - 2 : Nat) : Int) < 64 := by omega
          have b16 : ((k - 16 : Nat) : Int) < 64 := by omega
          have b7 : ((k - 7 : Nat) : Int) < 64 := by omega
          have b0 : ((k : Nat) : Int) < 64 := by omega
          generalize hx2 : (sched f k).getD (k - 15) 0 = x2 at *
          generalize hx4 : (sched f k).getD (k - 2) 0 = x4 at *
          have HN := Lib.hid n1
          have HLN := Lib.hid hlen
          clear n1 hlen
          go_wp2_with fail
          have hL0 : Hid (Lay wr.drew (w.heap.size + 2) (sched f k)) := Lib.hid hlay.out
          have hR0 : Hid (RB w wr.drew y) := Lib.hid (hrb.out.later (below_drew0 (Below.refl _ _)))
          have q01 := hlay.out.get (by have := HLN.out; omega) (k - 16) (by omega)
          have q02 := hlay.out.get (by have := HLN.out; omega) (k - 7) (by omega)
          have q03 := hlay.out.get (by have := HLN.out; omega) k (by omega)
          have q04 := hlay.out.free k
          generalize hx1 : (sched f k).getD (k - 16) 0 = x1 at *
          generalize hx3 : (sched f k).getD (k - 7) 0 = x3 at *
          clear g2 g4 hlay hrb
          go_region_held2 (fun U => U.cell? ⟨w.heap.size + 2, k - 16, none⟩ = some (.int .u32 x1) ∧ U.cell? ⟨w.heap.size + 2, k - 7, none⟩ = some (.int .u32 x3) ∧ (U.cell? ⟨w.heap.size + 2, k, none⟩).isSome = true ∧ U.frozen? ⟨w.heap.size + 2, k, none⟩ = false)
            (first | exact ⟨q01, q02, by rw [World.cell?_drew, q03]; rfl, q04⟩ | exact ⟨q11, q12, by rw [q13]; rfl, q14⟩ | exact ⟨q21, q22, by rw [q23]; rfl, q24⟩ | exact ⟨q31, q32, by rw [q33]; rfl, q34⟩ | exact ⟨q41, q42, by rw [q43]; rfl, q44⟩ | exact lay_S hL4.out HLN.out hlt hk0 hx1 hx3 | fail)
            (first
            | ((have _ := hL3; go_at_call 64; refine (rror19 x4 _).mono ?_; rintro e U4 ⟨rfl, hb4⟩; have hL4 := Lib.hid (Lay.below hL3.out hb4); have hR4 := Lib.hid (hR3.out.later hb4); have q41 := hL4.out.get (by have := HLN.out; omega) (k - 16) (by omega); have q42 := hL4.out.get (by have := HLN.out; omega) (k - 7) (by omega); have q43 := hL4.out.get (by have := HLN.out; omega) k (by omega); have q44 := hL4.out.free k; rw [hx1] at q41; rw [hx3] at q42; clear hb4))
            | ((have _ := hL2; go_at_call 64; refine (rror17 x4 _).mono ?_; rintro e U3 ⟨rfl, hb3⟩; have hL3 := Lib.hid (Lay.below hL2.out hb3); have hR3 := Lib.hid (hR2.out.later hb3); have q31 := hL3.out.get (by have := HLN.out; omega) (k - 16) (by omega); have q32 := hL3.out.get (by have := HLN.out; omega) (k - 7) (by omega); have q33 := hL3.out.get (by have := HLN.out; omega) k (by omega); have q34 := hL3.out.free k; rw [hx1] at q31; rw [hx3] at q32; clear hb3))
            | ((have _ := hL1; go_at_call 64; refine (rror18 x2 _).mono ?_; rintro e U2 ⟨rfl, hb2⟩; have hL2 := Lib.hid (Lay.below hL1.out hb2); have hR2 := Lib.hid (hR1.out.later hb2); have q21 := hL2.out.get (by have := HLN.out; omega) (k - 16) (by omega); have q22 := hL2.out.get (by have := HLN.out; omega) (k - 7) (by omega); have q23 := hL2.out.get (by have := HLN.out; omega) k (by omega); have q24 := hL2.out.free k; rw [hx1] at q21; rw [hx3] at q22; clear hb2))
            | ((go_at_call 64; refine (rror7 x2 _).mono ?_; rintro e U1 ⟨rfl, hb1⟩; have hL1 := Lib.hid (Lay.below hL0.out hb1); have hR1 := Lib.hid (hR0.out.later hb1); have q11 := hL1.out.get (by have := HLN.out; omega) (k - 16) (by omega); have q12 := hL1.out.get (by have := HLN.out; omega) (k - 7) (by omega); have q13 := hL1.out.get (by have := HLN.out; omega) k (by omega); have q14 := hL1.out.free k; rw [hx1] at q11; rw [hx3] at q12; clear hb1)))
          have hset := fun v => hL4.out.set (by have := HLN.out; omega) v
          rw [HLN.out] at hset
          have HS := Lib.hid hset
          clear hset q01 q02 q03 q04 q11 q12 q13 q14 q21 q22 q23 q24 q31 q32 q33 q34 q41 q42 q43 q44
          go_wp2_with fail
          go_roundw
          case rel =>
            refine ⟨k + 1, by omega, by omega, by go_num, Lib.hid ?_, Lib.hid (hR4.out.chg (chg_set _ _ _ _) (Nat.le_refl _))⟩
            rw [HN.out]
            rw [mod3]
            exact HS.out _
          case measure => simp [intOf]; omega
        · have hl64 : Lay wr (w.heap.size + 2) (sched f 64) := by rw [← show k = 64 from by omega]; exact hlay.out
          have c1 : decide ((k : Int) < 64) = false := by simp; omega
          have HL64 := Lib.hid hl64
          clear hl64 hlay
          go_wp2_with fail
          refine (rnum_any wr).mono ?_
          rintro e w3 ⟨rfl, hb3⟩
          have hR3 := Lib.hid (hrb.out.later hb3)
          have hL3 := Lib.hid (Lay.below HL64.out hb3)
          have hzk : Hid (Lay (w3.alloc (.cells (arr []) 76)) w3.heap.size []) := Lib.hid (heap_alloc_new _ _)
          clear hb3 hrb HL64
          go_wp2_with (refine lay_store2 rfl (.tmp 10) (.tmp 78) rfl w3.heap.size [] kcs hzk.out (Nat.zero_le _) kcs_len rfl rfl ?_; rintro w4 hk4 hc4)
          have hL4 := Lib.hid (Lay.below (w' := w4) hL3.out (Chg.below (one_new w3 _) (one_new w3 _).size (Nat.le_refl _) hc4))
          have hR4 := Lib.hid (hR3.out.later (Chg.below (one_new w3 _) (one_new w3 _).size (Nat.le_refl _) hc4))
          have hK4 := Lib.hid hk4
          have hs3 := hR3.out.size
          clear hzk hk4 hc4 hL3 hR3
          generalize w3.heap.size = gk at *
          have s0 := hR4.out.a.cell (k := 0) (by decide)
          have s1 := hR4.out.a.cell (k := 1) (by decide)
          have s2 := hR4.out.a.cell (k := 2) (by decide)
          have s3 := hR4.out.a.cell (k := 3) (by decide)
          have s4 := hR4.out.a.cell (k := 4) (by decide)
          have s5 := hR4.out.a.cell (k := 5) (by decide)
          have s6 := hR4.out.a.cell (k := 6) (by decide)
          have s7 := hR4.out.a.cell (k := 7) (by decide)
          simp only [nth8] at s0 s1 s2 s3 s4 s5 s6 s7
          go_quiet (fail)
          have hL5 : Hid (Lay (w4.drewN nq) (w.heap.size + 2) (sched f 64)) := Lib.hid hL4.out
          have hK5 : Hid (Lay (w4.drewN nq) gk kcs) := Lib.hid hK4.out
          have hR5 : Hid (RB w (w4.drewN nq) y) := Lib.hid ⟨hR4.out.a, hR4.out.z, ⟨hR4.out.below.os, hR4.out.below.tape, hR4.out.below.output, hR4.out.below.size, hR4.out.below.block⟩, hR4.out.size⟩
          clear s0 s1 s2 s3 s4 s5 s6 s7 hL4 hK4 hR4
          generalize w4.drewN nq = w5 at *
          go_wp2_with fail
          go_loopw [11, 12, 13, 14, 15, 16, 17, 18, 19] (fun x0 x1 x2 x3 x4 x5 x6 x7 i wr => ∃ (k : Nat) (s : R8), k ≤ 64 ∧ i = .int .i64 k ∧ x0 = .int .u32 s.a ∧ x1 = .int .u32 s.b ∧ x2 = .int .u32 s.c ∧ x3 = .int .u32 s.d ∧ x4 = .int .u32 s.e ∧ x5 = .int .u32 s.f ∧ x6 = .int .u32 s.g ∧ x7 = .int .u32 s.h ∧ Hid (s = rnds (sched f 64) y k) ∧ Hid (Lay wr (w.heap.size + 2) (sched f 64)) ∧ Hid (Lay wr gk kcs) ∧ Hid (RB w wr y)) (fun _ _ _ _ _ _ _ _ i _ => 64 - (intOf i).toNat)
          case atStart => exact ⟨0, y, Nat.zero_le _, rfl, rfl, rfl, rfl, rfl, rfl, rfl, rfl, rfl, Lib.hid rfl, hL5, hK5, hR5⟩
          case round =>
            clear hL5 hK5 hR5 hlt hk hk0 c1
            obtain ⟨k, s, hk, rfl, rfl, rfl, rfl, rfl, rfl, rfl, rfl, rfl, hs, hl, hkk, hr⟩ := hrel
            by_cases hlt : k < 64
            · have g1 := hl.out.get (Nat.le_of_eq (sched_len f 64)) k hlt
              have g2 := hkk.out.get (Nat.le_of_eq kcs_len) k hlt
              have c1 : decide ((k : Int) < 64) = true := by simp; omega
              have b1 : (k : Int) < 64 := by omega
              generalize hwt : (sched f 64).getD k 0 = wt at *
              generalize hkt : kcs.getD k 0 = kt at *
              have HWT := Lib.hid (And.intro hwt hkt)
              clear hwt hkt
              go_wp2_with fail
              refine wp_region_quiet_lit (by kernel_rfl) (by kernel_rfl) ?_
              iterate 2 (go_big_quiet_step (fail))
              go_big_quiet_step ((go_at_call 64; exact Calls.quiet_of (rrorq6 _ _)))
              go_big_quiet_step (fail)
              go_big_quiet_step ((go_at_call 64; exact Calls.quiet_of (rrorq11 _ _)))
              iterate 2 (go_big_quiet_step (fail))
              go_big_quiet_step ((go_at_call 64; exact Calls.quiet_of (rrorq25 _ _)))
              repeat (go_big_quiet_step (fail))
              refine wpQuiet_nil ?_
              intro _ hw'
              obtain ⟨nq, hw''⟩ := hw'
              subst hw''
              have hL6 : Hid (Lay (wr.drewN nq) (w.heap.size + 2) (sched f 64)) := Lib.hid hl.out
              have hK6 : Hid (Lay (wr.drewN nq) gk kcs) := Lib.hid hkk.out
              have hR6 : Hid (RB w (wr.drewN nq) y) := Lib.hid ⟨hr.out.a, hr.out.z, ⟨hr.out.below.os, hr.out.below.tape, hr.out.below.output, hr.out.below.size, hr.out.below.block⟩, hr.out.size⟩
              clear g1 g2 hl hkk hr
              generalize wr.drewN nq = w6 at *
              go_wp2_with fail
              refine (rror2 _ _).mono ?_
              rintro e w7 ⟨rfl, hb7⟩
              go_wp2_with fail
              refine (rror13 _ _).mono ?_
              rintro e w8 ⟨rfl, hb8⟩
              go_wp2_with fail
              refine (rror22 _ _).mono ?_
              rintro e w9 ⟨rfl, hb9⟩
              have hb69 := (hb7.trans (hb8.mono hb7.size)).trans (hb9.mono (hb7.trans (hb8.mono hb7.size)).size)
              have hL9 := Lib.hid (Lay.below hL6.out hb69)
              have hK9 := Lib.hid (Lay.below hK6.out hb69)
              have hR9 := Lib.hid (hR6.out.later hb69)
              clear hb7 hb8 hb9 hb69 hL6 hK6 hR6
              go_wp2_with fail
              go_roundw
              case rel => exact ⟨k + 1, rnd kt wt s, by omega, by go_num, rfl, rfl, rfl, rfl, rfl, rfl, rfl, rfl, Lib.hid (by rw [rnds_succ, HWT.out.1, show kc k = kt from HWT.out.2, ← hs.out]), hL9, hK9, hR9⟩
              case measure => simp [intOf]; omega
            · have hs64 : s = rnds (sched f 64) y 64 := by
                have e : k = 64 := by omega
                have := hs.out
                rw [e] at this
                exact this
              have c1 : decide ((k : Int) < 64) = false := by simp; omega
              have HR := Lib.hid hs64
              clear hl hkk hs hs64
              have s0 := hr.out.a.cell (k := 0) (by decide)
              have s1 := hr.out.a.cell (k := 1) (by decide)
              have s2 := hr.out.a.cell (k := 2) (by decide)
              have s3 := hr.out.a.cell (k := 3) (by decide)
              have s4 := hr.out.a.cell (k := 4) (by decide)
              have s5 := hr.out.a.cell (k := 5) (by decide)
              have s6 := hr.out.a.cell (k := 6) (by decide)
              have s7 := hr.out.a.cell (k := 7) (by decide)
              simp only [nth8] at s0 s1 s2 s3 s4 s5 s6 s7
              go_wp2_with (refine s6_store rfl (.tmp 4) (.tmp 190) rfl (w.heap.size + 1) zero8 (mix 8 y s) hr.out.z rfl rfl ?_; rintro w9 hs9 hc9)
              have hz := hr.out.size
              rw [HR.out] at hs9
              exact bodyPost_ret (results_cell_row rfl _ _ (w.heap.size + 1) 73 _ (0, 0) _ rfl hs9 Tryd.underlying73 rfl info73) rfl ⟨rfl, Chg.below hr.out.below hr.out.below.size (by omega) hc9⟩
end Go.Proofs.YteeabenmfmeooaaDoor
