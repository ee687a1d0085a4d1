/-
  Digest, the reference: block.
-/
import Derived.Test.YtekboemijafplaaDoorRBlk
import Derived.BigQuiet
import Derived.Deep.RegionHeld2
import Derived.Deep.QuietTactic
namespace Go.Proofs.YtekboemijafplaaDoor
open Go Go.RowKit
theorem lay_S {U : World} {g k : Nat} {xs : List Int} {v x1 x3 : Int} (h : Lay U g xs) (hk : xs.length = k) (h64 : k < 64) (h16 : 16 ≤ k) (e1 : xs.getD (k - 16) 0 = x1) (e3 : xs.getD (k - 7) 0 = x3) :
    (U.setCell ⟨g, k, none⟩ (.int .u32 v)).cell? ⟨g, k - 16, none⟩ = some (.int .u32 x1) ∧ (U.setCell ⟨g, k, none⟩ (.int .u32 v)).cell? ⟨g, k - 7, none⟩ = some (.int .u32 x3) ∧
    ((U.setCell ⟨g, k, none⟩ (.int .u32 v)).cell? ⟨g, k, none⟩).isSome = true ∧ (U.setCell ⟨g, k, none⟩ (.int .u32 v)).frozen? ⟨g, k, none⟩ = false := by
  have hs := h.set (by omega) v
  rw [hk] at hs
  have ha : ∀ i, i < k → (xs ++ [v]).getD i 0 = xs.getD i 0 := fun i hi => by
    rw [List.getD_eq_getElem?_getD, List.getD_eq_getElem?_getD, List.getElem?_append_left (by omega)]
  refine ⟨?_, ?_, ?_, hs.free k⟩
  · rw [hs.get (by simp; omega) (k - 16) (by omega), ha _ (by omega), e1]
  · rw [hs.get (by simp; omega) (k - 7) (by omega), ha _ (by omega), e3]
  · rw [hs.get (by simp; omega) k (by omega)]
    rfl
theorem mod3 (a b c d : Int) : ((((a + b) % 4294967296 + c) % 4294967296 + d) % 4294967296) = (a + b + c + d) % 4294967296 := by omega
theorem info56 : (Tryd.prog.info? 56).map (·.size) = some 8 := by kernel_rfl
theorem s6_store {ops : Array Oper} {rest : List Oper} {o : Oper} {a : Act} {w : World} {Q : Exit → Act → World → Prop} (hgd : o.guard = none) (x y : Operand) (ho : o.op = .store 56 x y) (g : Nat) (s0 s : R8) (hl : S6 w g s0) (hp : a.eval x = .pointer (some ⟨g, 0, none⟩)) (hv : a.eval y = .agg (cells8 s))
    (h : ∀ w2 : World, S6 w2 g s → Chg g w w2 → wpList Tryd.prog ops Q rest (a.put o.dst undef) w2) : wpList Tryd.prog ops Q (o :: rest) a w :=
  wpList_store_row hgd 56 x y ho g (cells8 s) hp hv 56 (cells8 s0) hl info56 rfl (by simp [cells8, Value.oneCell']) (h _ (setRow_heap _ _ _ _ _ _ hl) (chg_row _ _ _))
theorem below_drew0 {m : Nat} {w w' : World} (h : Below m w w') : Below m w w'.drew := ⟨h.os, h.tape, h.output, h.size, h.block⟩
theorem lay_store3 {ops : Array Oper} {rest : List Oper} {o : Oper} {a : Act} {w : World} {Q : Exit → Act → World → Prop} (hgd : o.guard = none) (x y : Operand) (ho : o.op = .store 66 x y) (g : Nat) (hl : Lay w g []) (hp : a.eval x = .pointer (some ⟨g, 0, none⟩)) (hv : a.eval y = .agg (arr []))
    (h : ∀ w2 : World, Hid (Lay w2 g []) → Hid (Chg g w w2) → wpList Tryd.prog ops Q rest (a.put o.dst undef) w2) : wpList Tryd.prog ops Q (o :: rest) a w :=
  wpList_store_row hgd 66 x y ho g (arr []) hp hv 66 (arr []) hl (by rw [arr_size [] (by simp)]; exact info66) rfl (arr_one []) (h _ (Lib.hid (setRow_heap _ _ _ _ _ _ hl)) (Lib.hid (chg_row _ _ _)))
def RBlkR (f : Nat → Int) (y : R8) (w : World) (e : Ending) (w' : World) : Prop := e = .returned (.agg (cells8 (mix 8 y (rnds (sched f 64) y 64)))) ∧ Below w.heap.size w w'
set_option maxRecDepth 100000 in
set_option maxHeartbeats 2000000 in
theorem rblock_any (b o : Nat) (f : Nat → Int) (y : R8) (cap : Nat) (w : World) (hcap : 64 ≤ cap) (hcap2 : cap ≤ 9223372036854775807) (hf : ∀ k, 0 ≤ f k ∧ f k < 256) (hb : b < w.heap.size) (hc : ∀ k, k < 64 → w.cell? ⟨b, o + k, none⟩ = some (.int .u8 (f k))) :
    Calls Tryd.prog 33 #[.agg (cells8 y), .slice (some ⟨b, o, none⟩) 64 cap] w (RBlkR f y w) := by
  have HC := Lib.hid hc
  have HF := Lib.hid hf
  clear hc hf
  go_enter Tryd.func33, Tryd.ntmps33
  have H0 := Lib.hid (rb_start w y)
  go_wp2_with (refine lay_store3 rfl (.tmp 5) (.tmp 22) rfl (w.heap.size + 2) H0.out.2 rfl rfl ?_; rintro w2 hl2 hc2)
  have hl2' := hl2.out
  have hrb2 := H0.out.1.chg hc2.out (Nat.le_refl _)
  clear hc2 H0 hl2
  have hblt := hb
  go_wp2_with fail
  go_loopw [6] (fun i wr => ∃ k : Nat, k ≤ 16 ∧ i = .int .i64 k ∧ Hid (Lay wr (w.heap.size + 2) (sched f k)) ∧ Hid (RB w wr y)) (fun i _ => 16 - (intOf i).toNat)
  case atStart => exact ⟨0, Nat.zero_le _, rfl, Lib.hid hl2', Lib.hid hrb2⟩
  case round =>
    clear hl2' hrb2
    obtain ⟨k, hk, rfl, hlay, hrb⟩ := hrel
    have hlen := sched_len f k
    by_cases hlt : k < 16
    · have hw := rword_any b (o + 4 * k) (fun j => f (k * 4 + j)) (cap - 4 * k) wr (by omega) (fun j => HF.out _) (fun j hj => by
        rw [hrb.out.below.cell (p := ⟨b, o + 4 * k + j, none⟩) hb, Nat.add_assoc, Nat.mul_comm 4 k]
        exact HC.out _ (by omega))
      have HW := Lib.hid hw
      have c1 : decide ((k : Int) < 16) = true := by simp; omega
      have HLN := Lib.hid hlen
      clear hw hlen
      have i1 : (4 : Int) * (k : Int) ≤ 4 * (k : Int) + 4 := by omega
      have i2 : (4 : Int) * (k : Int) + 4 ≤ (cap : Int) := by omega
      go_wp2_with fail
      rw [show 4 * k + 4 - 4 * k = 4 by omega]
      refine HW.out.mono ?_
      rintro e w' ⟨rfl, hb'⟩
      have hl' := hlay.out.below hb'
      have hr' := Lib.hid (hrb.out.later hb')
      have g5 := hl'.get (by rw [HLN.out]; omega) k (by omega)
      have g6 := hl'.free k
      have hset := fun v => hl'.set (by rw [HLN.out]; omega) v
      rw [HLN.out] at hset
      have HS := Lib.hid hset
      clear hset hl' HW hb'
      go_wp2_with fail
      go_roundw
      case rel => exact ⟨k + 1, by omega, by go_num, by have := HS.out (wacc (fun j => f (k * 4 + j)) 4); exact Lib.hid (by simpa [sched, hlt] using this), Lib.hid (hr'.out.chg (chg_set _ _ _ _) (Nat.le_refl _))⟩
      case measure => simp [intOf]; omega
    · have hlay : Lay wr (w.heap.size + 2) (sched f 16) := by rw [← show k = 16 from by omega]; exact hlay.out
      have c1 : decide ((k : Int) < 16) = false := by simp; omega
      have HL16 := Lib.hid hlay
      clear hlay hlen
      go_wp2_with fail
      go_loopw [7] (fun i wr => ∃ k : Nat, 16 ≤ k ∧ k ≤ 64 ∧ i = .int .i64 k ∧ Hid (Lay wr (w.heap.size + 2) (sched f k)) ∧ Hid (RB w wr y)) (fun i _ => 64 - (intOf i).toNat)
      case atStart => exact ⟨16, by omega, by omega, rfl, HL16, hrb⟩
      case round =>
        clear HL16 hrb hlt c1
        clear hk
        obtain ⟨k, hk0, hk, rfl, hlay, hrb⟩ := hrel
        by_cases hlt : k < 64
        · have hlen := sched_len f k
          have c1 : decide ((k : Int) < 64) = true := by simp; omega
          have n1 : sched f (k + 1) = sched f k ++ [nextw (sched f k)] := by simp only [sched]; rw [if_neg (by omega)]
          unfold nextw at n1
          rw [hlen] at n1
          have g2 := hlay.out.get (by omega) (k - 15) (by omega)
          have g4 := hlay.out.get (by omega) (k - 2) (by omega)
          have s15 : IntKind.i64.wrap ((k : Int) - 15) = ((k - 15 : Nat) : Int) := by rw [IntWalk.i64_in _ (by omega)]; omega
          have s2 : IntKind.i64.wrap ((k : Int) - 2) = ((k - 2 : Nat) : Int) := by rw [IntWalk.i64_in _ (by omega)]; omega
          have s16 : IntKind.i64.wrap ((k : Int) - 16) = ((k - 16 : Nat) : Int) := by rw [IntWalk.i64_in _ (by omega)]; omega
          have s7 : IntKind.i64.wrap ((k : Int) - 7) = ((k - 7 : Nat) : Int) := by rw [IntWalk.i64_in _ (by omega)]; omega
          have b15 : ((k - 15 : Nat) : Int) < 64 := by omega
          have b2 : ((k - 2 : Nat) : Int) < 64 := by omega
          have b16 : ((k - 16 : Nat) : Int) < 64 := by omega
          have b7 : ((k - 7 : Nat) : Int) < 64 := by omega
          have b0 : ((k : Nat) : Int) < 64 := by omega
          generalize hx2 : (sched f k).getD (k - 15) 0 = x2 at *
          generalize hx4 : (sched f k).getD (k - 2) 0 = x4 at *
          have HN := Lib.hid n1
          have HLN := Lib.hid hlen
          clear n1 hlen
          go_wp2_with fail
          have hL0 : Hid (Lay wr.drew (w.heap.size + 2) (sched f k)) := Lib.hid hlay.out
          have hR0 : Hid (RB w wr.drew y) := Lib.hid (hrb.out.later (below_drew0 (Below.refl _ _)))
          have q01 := hlay.out.get (by have := HLN.out; omega) (k - 16) (by omega)
          have q02 := hlay.out.get (by have := HLN.out; omega) (k - 7) (by omega)
          have q03 := hlay.out.get (by have := HLN.out; omega) k (by omega)
          have q04 := hlay.out.free k
          generalize hx1 : (sched f k).getD (k - 16) 0 = x1 at *
          generalize hx3 : (sched f k).getD (k - 7) 0 = x3 at *
          clear g2 g4 hlay hrb
          go_region_held2 (fun U => U.cell? ⟨w.heap.size + 2, k - 16, none⟩ = some (.int .u32 x1) ∧ U.cell? ⟨w.heap.size + 2, k - 7, none⟩ = some (.int .u32 x3) ∧ (U.cell? ⟨w.heap.size + 2, k, none⟩).isSome = true ∧ U.frozen? ⟨w.heap.size + 2, k, none⟩ = false)
            (first | exact ⟨q01, q02, by rw [World.cell?_drew, q03]; rfl, q04⟩ | exact ⟨q11, q12, by rw [q13]; rfl, q14⟩ | exact ⟨q21, q22, by rw [q23]; rfl, q24⟩ | exact ⟨q31, q32, by rw [q33]; rfl, q34⟩ | exact ⟨q41, q42, by rw [q43]; rfl, q44⟩ | exact lay_S hL4.out HLN.out hlt hk0 hx1 hx3 | fail)
            (first
            | ((have _ := hL3; go_at_call 48; refine (rror19 x4 _).mono ?_; rintro e U4 ⟨rfl, hb4⟩; have hL4 := Lib.hid (Lay.below hL3.out hb4); have hR4 := Lib.hid (hR3.out.later hb4); have q41 := hL4.out.get (by have := HLN.out; omega) (k - 16) (by omega); have q42 := hL4.out.get (by have := HLN.out; omega) (k - 7) (by omega); have q43 := hL4.out.get (by have := HLN.out; omega) k (by omega); have q44 := hL4.out.free k; rw [hx1] at q41; rw [hx3] at q42; clear hb4))
            | ((have _ := hL2; go_at_call 48; refine (rror17 x4 _).mono ?_; rintro e U3 ⟨rfl, hb3⟩; have hL3 := Lib.hid (Lay.below hL2.out hb3); have hR3 := Lib.hid (hR2.out.later hb3); have q31 := hL3.out.get (by have := HLN.out; omega) (k - 16) (by omega); have q32 := hL3.out.get (by have := HLN.out; omega) (k - 7) (by omega); have q33 := hL3.out.get (by have := HLN.out; omega) k (by omega); have q34 := hL3.out.free k; rw [hx1] at q31; rw [hx3] at q32; clear hb3))
            | ((have _ := hL1; go_at_call 48; refine (rror18 x2 _).mono ?_; rintro e U2 ⟨rfl, hb2⟩; have hL2 := Lib.hid (Lay.below hL1.out hb2); have hR2 := Lib.hid (hR1.out.later hb2); have q21 := hL2.out.get (by have := HLN.out; omega) (k - 16) (by omega); have q22 := hL2.out.get (by have := HLN.out; omega) (k - 7) (by omega); have q23 := hL2.out.get (by have := HLN.out; omega) k (by omega); have q24 := hL2.out.free k; rw [hx1] at q21; rw [hx3] at q22; clear hb2))
            | ((go_at_call 48; refine (rror7 x2 _).mono ?_; rintro e U1 ⟨rfl, hb1⟩; have hL1 := Lib.hid (Lay.below hL0.out hb1); have hR1 := Lib.hid (hR0.out.later hb1); have q11 := hL1.out.get (by have := HLN.out; omega) (k - 16) (by omega); have q12 := hL1.out.get (by have := HLN.out; omega) (k - 7) (by omega); have q13 := hL1.out.get (by have := HLN.out; omega) k (by omega); have q14 := hL1.out.free k; rw [hx1] at q11; rw [hx3] at q12; clear hb1)))
          have hset := fun v => hL4.out.set (by have := HLN.out; omega) v
          rw [HLN.out] at hset
          have HS := Lib.hid hset
          clear hset q01 q02 q03 q04 q11 q12 q13 q14 q21 q22 q23 q24 q31 q32 q33 q34 q41 q42 q43 q44
          go_wp2_with fail
          go_roundw
          case rel =>
            refine ⟨k + 1, by omega, by omega, by go_num, Lib.hid ?_, Lib.hid (hR4.out.chg (chg_set _ _ _ _) (Nat.le_refl _))⟩
            rw [HN.out]
            rw [mod3]
            exact HS.out _
          case measure => simp [intOf]; omega
        · have hl64 : Lay wr (w.heap.size + 2) (sched f 64) := by rw [← show k = 64 from by omega]; exact hlay.out
          have c1 : decide ((k : Int) < 64) = false := by simp; omega
          have HL64 := Lib.hid hl64
          clear hl64 hlay
          go_wp2_with fail
          refine (rnum_any wr).mono ?_
          rintro e w3 ⟨rfl, hb3⟩
          have hR3 := Lib.hid (hrb.out.later hb3)
          have hL3 := Lib.hid (Lay.below HL64.out hb3)
          have hzk : Hid (Lay (w3.alloc (.cells (arr []) 66)) w3.heap.size []) := Lib.hid (heap_alloc_new _ _)
          clear hb3 hrb HL64
          go_wp2_with (refine lay_store2 rfl (.tmp 10) (.tmp 78) rfl w3.heap.size [] kcs hzk.out (Nat.zero_le _) kcs_len rfl rfl ?_; rintro w4 hk4 hc4)
          have hL4 := Lib.hid (Lay.below (w' := w4) hL3.out (Chg.below (one_new w3 _) (one_new w3 _).size (Nat.le_refl _) hc4))
          have hR4 := Lib.hid (hR3.out.later (Chg.below (one_new w3 _) (one_new w3 _).size (Nat.le_refl _) hc4))
          have hK4 := Lib.hid hk4
          have hs3 := hR3.out.size
          clear hzk hk4 hc4 hL3 hR3
          generalize w3.heap.size = gk at *
          have s0 := hR4.out.a.cell (k := 0) (by decide)
          have s1 := hR4.out.a.cell (k := 1) (by decide)
          have s2 := hR4.out.a.cell (k := 2) (by decide)
          have s3 := hR4.out.a.cell (k := 3) (by decide)
          have s4 := hR4.out.a.cell (k := 4) (by decide)
          have s5 := hR4.out.a.cell (k := 5) (by decide)
          have s6 := hR4.out.a.cell (k := 6) (by decide)
          have s7 := hR4.out.a.cell (k := 7) (by decide)
          simp only [nth8] at s0 s1 s2 s3 s4 s5 s6 s7
          go_quiet (fail)
          have hL5 : Hid (Lay (w4.drewN nq) (w.heap.size + 2) (sched f 64)) := Lib.hid hL4.out
          have hK5 : Hid (Lay (w4.drewN nq) gk kcs) := Lib.hid hK4.out
          have hR5 : Hid (RB w (w4.drewN nq) y) := Lib.hid ⟨hR4.out.a, hR4.out.z, ⟨hR4.out.below.os, hR4.out.below.tape, hR4.out.below.output, hR4.out.below.size, hR4.out.below.block⟩, hR4.out.size⟩
          clear s0 s1 s2 s3 s4 s5 s6 s7 hL4 hK4 hR4
          generalize w4.drewN nq = w5 at *
          go_wp2_with fail
          go_loopw [11, 12, 13, 14, 15, 16, 17, 18, 19] (fun x0 x1 x2 x3 x4 x5 x6 x7 i wr => ∃ (k : Nat) (s : R8), k ≤ 64 ∧ i = .int .i64 k ∧ x0 = .int .u32 s.a ∧ x1 = .int .u32 s.b ∧ x2 = .int .u32 s.c ∧ x3 = .int .u32 s.d ∧ x4 = .int .u32 s.e ∧ x5 = .int .u32 s.f ∧ x6 = .int .u32 s.g ∧ x7 = .int .u32 s.h ∧ Hid (s = rnds (sched f 64) y k) ∧ Hid (Lay wr (w.heap.size + 2) (sched f 64)) ∧ Hid (Lay wr gk kcs) ∧ Hid (RB w wr y)) (fun _ _ _ _ _ _ _ _ i _ => 64 - (intOf i).toNat)
          case atStart => exact ⟨0, y, Nat.zero_le _, rfl, rfl, rfl, rfl, rfl, rfl, rfl, rfl, rfl, Lib.hid rfl, hL5, hK5, hR5⟩
          case round =>
            clear hL5 hK5 hR5 hlt hk hk0 c1
            obtain ⟨k, s, hk, rfl, rfl, rfl, rfl, rfl, rfl, rfl, rfl, rfl, hs, hl, hkk, hr⟩ := hrel
            by_cases hlt : k < 64
            · have g1 := hl.out.get (Nat.le_of_eq (sched_len f 64)) k hlt
              have g2 := hkk.out.get (Nat.le_of_eq kcs_len) k hlt
              have c1 : decide ((k : Int) < 64) = true := by simp; omega
              have b1 : (k : Int) < 64 := by omega
              generalize hwt : (sched f 64).getD k 0 = wt at *
              generalize hkt : kcs.getD k 0 = kt at *
              have HWT := Lib.hid (And.intro hwt hkt)
              clear hwt hkt
              go_wp2_with fail
              refine wp_region_quiet_lit (by kernel_rfl) (by kernel_rfl) ?_
              iterate 2 (go_big_quiet_step (fail))
              go_big_quiet_step ((go_at_call 48; exact Calls.quiet_of (rrorq6 _ _)))
              go_big_quiet_step (fail)
              go_big_quiet_step ((go_at_call 48; exact Calls.quiet_of (rrorq11 _ _)))
              iterate 2 (go_big_quiet_step (fail))
              go_big_quiet_step ((go_at_call 48; exact Calls.quiet_of (rrorq25 _ _)))
              repeat (go_big_quiet_step (fail))
              refine wpQuiet_nil ?_
              intro _ hw'
              obtain ⟨nq, hw''⟩ := hw'
              subst hw''
              have hL6 : Hid (Lay (wr.drewN nq) (w.heap.size + 2) (sched f 64)) := Lib.hid hl.out
              have hK6 : Hid (Lay (wr.drewN nq) gk kcs) := Lib.hid hkk.out
              have hR6 : Hid (RB w (wr.drewN nq) y) := Lib.hid ⟨hr.out.a, hr.out.z, ⟨hr.out.below.os, hr.out.below.tape, hr.out.below.output, hr.out.below.size, hr.out.below.block⟩, hr.out.size⟩
              clear g1 g2 hl hkk hr
              generalize wr.drewN nq = w6 at *
              go_wp2_with fail
              refine (rror2 _ _).mono ?_
              rintro e w7 ⟨rfl, hb7⟩
              go_wp2_with fail
              refine (rror13 _ _).mono ?_
              rintro e w8 ⟨rfl, hb8⟩
              go_wp2_with fail
              refine (rror22 _ _).mono ?_
              rintro e w9 ⟨rfl, hb9⟩
              have hb69 := (hb7.trans (hb8.mono hb7.size)).trans (hb9.mono (hb7.trans (hb8.mono hb7.size)).size)
              have hL9 := Lib.hid (Lay.below hL6.out hb69)
              have hK9 := Lib.hid (Lay.below hK6.out hb69)
              have hR9 := Lib.hid (hR6.out.later hb69)
              clear hb7 hb8 hb9 hb69 hL6 hK6 hR6
              go_wp2_with fail
              go_roundw
              case rel => exact ⟨k + 1, rnd kt wt s, by omega, by go_num, rfl, rfl, rfl, rfl, rfl, rfl, rfl, rfl, Lib.hid (by rw [rnds_succ, HWT.out.1, show kc k = kt from HWT.out.2, ← hs.out]), hL9, hK9, hR9⟩
              case measure => simp [intOf]; omega
            · have hs64 : s = rnds (sched f 64) y 64 := by
                have e : k = 64 := by omega
                have := hs.out
                rw [e] at this
                exact this
              have c1 : decide ((k : Int) < 64) = false := by simp; omega
              have HR := Lib.hid hs64
              clear hl hkk hs hs64
              have s0 := hr.out.a.cell (k := 0) (by decide)
              have s1 := hr.out.a.cell (k := 1) (by decide)
              have s2 := hr.out.a.cell (k := 2) (by decide)
              have s3 := hr.out.a.cell (k := 3) (by decide)
              have s4 := hr.out.a.cell (k := 4) (by decide)
              have s5 := hr.out.a.cell (k := 5) (by decide)
              have s6 := hr.out.a.cell (k := 6) (by decide)
              have s7 := hr.out.a.cell (k := 7) (by decide)
              simp only [nth8] at s0 s1 s2 s3 s4 s5 s6 s7
              go_wp2_with (refine s6_store rfl (.tmp 4) (.tmp 190) rfl (w.heap.size + 1) zero8 (mix 8 y s) hr.out.z rfl rfl ?_; rintro w9 hs9 hc9)
              have hz := hr.out.size
              rw [HR.out] at hs9
              exact bodyPost_ret (results_cell_row rfl _ _ (w.heap.size + 1) 56 _ (0, 0) _ rfl hs9 Tryd.underlying56 rfl info56) rfl ⟨rfl, Chg.below hr.out.below hr.out.below.size (by omega) hc9⟩
end Go.Proofs.YtekboemijafplaaDoor
