/-
  Disks: double, and holds where it is so.
-/
import Derived.Test.YtanmhjbeookfiaaPur
import Derived.Test.YtanmhjbeookfiaaRsyl
namespace Go.Proofs.Ytanmhjbeookfiaa
open Go Go.RowKit
/-- a sector whose halves begin with these bytes -/
def dbl (f s : UInt8) : List UInt8 := ((List.replicate 128 0).set 0 f).set 64 s
theorem dbl_len (f s : UInt8) : (dbl f s).length = 128 := by simp [dbl]
theorem dbl_get {f s : UInt8} : (dbl f s)[0]? = some f ∧ (dbl f s)[1]? = some 0 ∧ (dbl f s)[64]? = some s ∧ (dbl f s)[127]? = some 0 := by
  unfold dbl
  refine ⟨?_, ?_, ?_, ?_⟩ <;> simp
set_option maxRecDepth 100000 in
set_option maxHeartbeats 1000000 in
theorem double_any (c : UInt8) (w : World) : Calls Try.prog 27 #[.int .u8 (c.toNat : Int)] w (RowR (dbl c c) 128 w) := by
  have mk := mk128
  have e : ((zrow 128).setIfInBounds 0 (.int .u8 (c.toNat : Int))).setIfInBounds 64 (.int .u8 (c.toNat : Int)) = ((dbl c c).map byt).toArray := by
    unfold zrow dbl
    rw [List.map_set, List.map_set, List.setIfInBounds_toArray, List.setIfInBounds_toArray]
    rfl
  have HR2 : Hid (Row (w.alloc (.cells (((zrow 128).setIfInBounds 0 (.int .u8 (c.toNat : Int))).setIfInBounds 64 (.int .u8 (c.toNat : Int))) 5)) w.heap.size (dbl c c)) := Lib.hid (by rw [e]; exact heap_alloc_new _ _)
  have hz : (zrow 128).size = 128 := by simp [zrow]
  clear e
  go_enter Try.func27, Try.ntmps27
  go_wp2_with fail
  go_ret
  exact ⟨_, rfl, Nat.le_refl _, HR2.out, one_new _ _⟩
abbrev arr (F : Nat → UInt8) : Value := .agg #[.int .u8 ((F 0).toNat : Int), .int .u8 ((F 1).toNat : Int), .int .u8 ((F 2).toNat : Int), .int .u8 ((F 3).toNat : Int)]
abbrev arow (F : Nat → UInt8) : Obj := .cells #[.int .u8 ((F 0).toNat : Int), .int .u8 ((F 1).toNat : Int), .int .u8 ((F 2).toNat : Int), .int .u8 ((F 3).toNat : Int)] 44
theorem row4c {W : World} {k : Nat} {c0 c1 c2 c3 : Value} {t : TypeId} (h : W.heap[k]? = some (.cells #[c0, c1, c2, c3] t (0, 0))) : W.cell? ⟨k, 0, none⟩ = some c0 ∧ W.cell? ⟨k, 1, none⟩ = some c1 ∧ W.cell? ⟨k, 2, none⟩ = some c2 ∧ W.cell? ⟨k, 3, none⟩ = some c3 ∧ (∀ o, W.frozen? ⟨k, o, none⟩ = false) := by
  refine ⟨by simp [World.cell?, h], by simp [World.cell?, h], by simp [World.cell?, h], by simp [World.cell?, h], fun o => by simp [World.frozen?, h]⟩
theorem arow_at {W : World} {k : Nat} {F : Nat → UInt8} (h : W.heap[k]? = some (arow F)) {i : Nat} (hi : i < 4) : W.cell? ⟨k, i, none⟩ = some (.int .u8 ((F i).toNat : Int)) := by
  obtain ⟨h0, h1, h2, h3, _⟩ := row4c h
  match i, hi with
  | 0, _ => exact h0
  | 1, _ => exact h1
  | 2, _ => exact h2
  | 3, _ => exact h3
theorem hold_world (w : World) (c0 c1 c2 c3 : Value) (F S : Nat → UInt8) : ∃ W0, ((w.alloc (.cells #[c0, c1, c2, c3] 25)).alloc (arow F)).alloc (arow S) = W0 ∧ Below w.heap.size w W0 ∧ W0.heap.size = w.heap.size + 3 ∧
    W0.heap[w.heap.size]? = some (.cells #[c0, c1, c2, c3] 25 (0, 0)) ∧ W0.heap[w.heap.size + 1]? = some (arow F) ∧ W0.heap[w.heap.size + 1 + 1]? = some (arow S) := by
  refine ⟨_, rfl, ((two_below w _ _).alloc (by simp; omega) _), by simp, ?_, ?_, ?_⟩
  · exact ((one_new ((w.alloc (.cells #[c0, c1, c2, c3] 25)).alloc (arow F)) _).block w.heap.size (by simp; omega)).trans (((one_new (w.alloc (.cells #[c0, c1, c2, c3] 25)) _).block w.heap.size (by simp)).trans (heap_alloc_new w _))
  · have h2 := heap_alloc_new (w.alloc (.cells #[c0, c1, c2, c3] 25)) (arow F)
    rw [World.size_alloc] at h2
    exact ((one_new ((w.alloc (.cells #[c0, c1, c2, c3] 25)).alloc (arow F)) _).block (w.heap.size + 1) (by simp)).trans h2
  · have h2 := heap_alloc_new ((w.alloc (.cells #[c0, c1, c2, c3] 25)).alloc (arow F)) (arow S)
    rw [World.size_alloc, World.size_alloc] at h2
    exact h2
set_option maxRecDepth 100000 in
set_option maxHeartbeats 4000000 in
theorem holds_true (v : Value) (d : D) (F S : Nat → UInt8) (w : World) (h : DV w v d) (hg : ∀ i : Nat, i < 4 → goodA d i ∧ readL d i = dbl (F i) (S i)) : Calls Try.prog 28 #[v, arr F, arr S] w (Ret (.bool true) w) := by
  obtain ⟨ps, N, cs, pp, M, cp, rfl, HO, hs1, hs2, hp1, hp2⟩ := h.op
  clear h
  have HR : Hid (∀ W (i : Nat), i < 4 → Below w.heap.size w W → Calls Try.prog 21 #[dval d ps N cs pp M cp, .int .i64 (i : Int)] W (RetL (dbl (F i) (S i)) 0 W)) := Lib.hid fun W i hi hb => by
    have := read_any _ d (i : Int) W (HO.out.below hb).dv
    rwa [readE_good (hg i hi).1, (hg i hi).2] at this
  obtain ⟨W0, hW0, hB0, hsz, k0, k1, k2⟩ := hold_world w (.slice ps N cs) (.slice pp M cp) (.int .i64 d.left) (.bool d.st) F S
  have HB0 := Lib.hid hB0
  have K0 := Lib.hid k0
  have K1 := Lib.hid k1
  have K2 := Lib.hid k2
  have HW0 := Lib.hid hW0
  clear hg hB0 k0 k1 k2 hW0
  go_enter Try.func28, Try.ntmps28
  go_wp2_with fail
  have hW0 := HW0.out
  simp only [arow] at hW0
  rw [hW0]
  clear hW0
  go_loopw [7] (fun x wr => ∃ i : Nat, i ≤ 4 ∧ x = .int .i64 i ∧ Hid (Below W0.heap.size W0 wr)) (fun x _ => 4 - (intOf x).toNat)
  case atStart => exact ⟨0, by omega, rfl, Lib.hid (Below.refl _ _)⟩
  case round =>
    obtain ⟨i, hi, rfl, HB⟩ := hrel
    by_cases hlt : i < 4
    · have hlti : (i : Int) < 4 := by omega
      have e0 := (HB.out.block w.heap.size (by omega)).trans K0.out
      have e1 := (HB.out.block (w.heap.size + 1) (by omega)).trans K1.out
      have e2 := (HB.out.block (w.heap.size + 1 + 1) (by omega)).trans K2.out
      obtain ⟨c0, c1, c2, c3, _⟩ := row4c e0
      have f1 := arow_at e1 hlt
      have f2 := arow_at e2 hlt
      have hzr := HB.out.size
      have hz1 : w.heap.size + 1 + 1 < wr.heap.size := by omega
      clear e0 e1 e2
      go_wp2_with fail
      refine (HR.out _ i hlt (HB0.out.trans (HB.out.mono HB0.out.size))).mono ?_
      rintro e wa ⟨va, rfl, hbv, hbe⟩
      obtain ⟨pa, ka, rfl, _, _⟩ := hbv.shape
      rw [dbl_len] at hbv
      rw [dbl_len]
      obtain ⟨b, o, rfl, hb, _, hk1, hk2⟩ := hbv.some_of (by omega)
      have g1 := (bcells hbe (show w.heap.size + 1 < wr.heap.size by omega) i).trans f1
      have g2 := (bcells hbe hz1 i).trans f2
      have hza : w.heap.size + 1 + 1 < wa.heap.size := by have := hbe.size; omega
      obtain ⟨y0, y1, y64, y127⟩ : wa.cell? ⟨b, o, none⟩ = some (.int .u8 ((F i).toNat : Int)) ∧ wa.cell? ⟨b, o + 1, none⟩ = some (.int .u8 0) ∧ wa.cell? ⟨b, o + 64, none⟩ = some (.int .u8 ((S i).toNat : Int)) ∧ wa.cell? ⟨b, o + 127, none⟩ = some (.int .u8 0) := by
        obtain ⟨b', cap, p', e, _, _, _, h4⟩ := hbv
        cases e
        rcases h4 with h4 | ⟨o', e, _, hc⟩
        · have := dbl_len (F i) (S i); rw [h4] at this; simp at this
        · cases e
          obtain ⟨a0, a1, a2, a3⟩ := dbl_get (f := F i) (s := S i)
          exact ⟨hc 0 _ a0, hc 1 _ a1, hc 64 _ a2, hc 127 _ a3⟩
      have Y0 := Later.cell hb y0
      have Y1 := Later.cell hb y1
      have Y64 := Later.cell hb y64
      have Y127 := Later.cell hb y127
      have G1 := Later.cell (show w.heap.size + 1 < wa.heap.size by omega) g1
      have G2 := Later.cell hza g2
      have HB2 := Lib.hid (HB.out.trans (hbe.mono HB.out.size))
      clear hbe hbv f1 f2 g1 g2 y0 y1 y64 y127 c0 c1 c2 c3
      go_wp2_with fail
      refine wp_region_later (by kernel_rfl) (by kernel_rfl) ?_
      repeat (go_big_quiet_step (fail))
      refine wpQuiet_nil ?_
      intro _ hw'
      obtain ⟨x, hx⟩ := hw'
      subst hx
      have HB3 := Lib.hid (HB2.out.trans (x.b.mono HB2.out.size))
      clear Y0 Y1 Y64 Y127 G1 G2
      go_wp2_with fail
      go_roundw
      case rel => exact ⟨i + 1, by omega, by go_num, HB3⟩
      case measure => simp [intOf]; omega
    · have hb := HB0.out.trans (HB.out.mono HB0.out.size)
      have HB2 := Lib.hid hb
      obtain rfl : i = 4 := by omega
      clear hb
      go_wp2_with fail
      go_ret
      exact ⟨rfl, HB2.out⟩
end Go.Proofs.Ytanmhjbeookfiaa
