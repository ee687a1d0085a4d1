/-
  Digest: the law DigestSumSpec.
-/
import Derived.Test.YtekboemijafplaaDoorRTag
import Derived.Test.YtekboemijafplaaDoorSane
namespace Go.Proofs.YtekboemijafplaaDoor
open Go Go.RowKit
theorem made_run2 (z : Nat) (hz : z ≤ 1000) (W : World) : (Instr.makeSlice 22 (.int .i64 (z : Int)) (.int .i64 (z : Int))).run Tryd.prog W = .ok (.slice (some ⟨W.heap.size, 0, none⟩) z z) (W.alloc (.cells (zrow z) 5)) := by
  have h5 := info5
  cases hi : Tryd.prog.info? 5 with
  | none => rw [hi] at h5; cases h5
  | some i =>
    rw [hi] at h5
    simp only [Option.map_some, Option.some.injEq, Prod.mk.injEq] at h5
    obtain ⟨s1, s2, s3⟩ := h5
    have h := run_make (P := Tryd.prog) W 22 5 i (.int .u8 0) Tryd.underlying22 hi s3 .i64 .i64 z z (by omega) (Int.le_refl _) (by rw [s2]; omega) (by omega)
    rw [s1] at h
    unfold zrow
    rw [← made_list]
    simpa [Value.cells] using h
theorem row_int {w : World} {g i : Nat} {l : List UInt8} {x : Int} (h : Row w g l) (h0 : 0 ≤ x) (h1 : x < 256) : Row (w.setCell ⟨g, i, none⟩ (.int .u8 x)) g (l.set i (UInt8.ofNat x.toNat)) := by
  have e : Value.int .u8 x = byt (UInt8.ofNat x.toNat) := by
    unfold byt
    rw [UInt8.toNat_ofNat']
    congr 1
    omega
  rw [e]
  exact h.set i _
set_option maxRecDepth 100000 in
set_option maxHeartbeats 2000000 in
theorem sumSpec_any (v : Value) (b : List UInt8) (s : ByteArray) (many : Int) (w : World) (hv : BV w v b) (hm : 0 ≤ many ∧ many < 256) (hk : KOK w) : Calls Tryd.prog 3 #[v, .string s, .int .u8 many] w (Ret (.bool true) w) := by
  have HV := Lib.hid hv
  have HK := Lib.hid hk
  obtain ⟨bb, cap, p, rfl, hbc⟩ := hv
  clear hk
  by_cases hb : 300 < b.length
  · have c1 : decide ((300 : Int) < (b.length : Int)) = true := by simp; omega
    go_enter Tryd.func3, Tryd.ntmps3
    go_wp2_with (go_at_call 11; refine (sane_any _ HK.out).mono ?_; rintro e w1 ⟨rfl, hb1⟩)
    go_ret
    exact ⟨rfl, hb1⟩
  by_cases hs : 300 < s.size
  · have c1 : decide ((300 : Int) < (b.length : Int)) = false := by simp; omega
    have c2 : decide ((300 : Int) < (s.size : Int)) = true := by simp; omega
    go_enter Tryd.func3, Tryd.ntmps3
    go_wp2_with (go_at_call 11; refine (sane_any _ HK.out).mono ?_; rintro e w1 ⟨rfl, hb1⟩)
    go_ret
    exact ⟨rfl, hb1⟩
  have c1 : decide ((300 : Int) < (b.length : Int)) = false := by simp; omega
  have c2 : decide ((300 : Int) < (s.size : Int)) = false := by simp; omega
  obtain ⟨mn, rfl⟩ : ∃ mn : Nat, many = (mn : Int) := ⟨many.toNat, by omega⟩
  have mk : ∀ W : World, (Instr.makeSlice 22 (.int .i64 ((mn : Int) + 1)) (.int .i64 ((mn : Int) + 1))).run Tryd.prog W = .ok (.slice (some ⟨W.heap.size, 0, none⟩) (mn + 1) (mn + 1)) (W.alloc (.cells (zrow (mn + 1)) 5)) := fun W => by
    have := made_run2 (mn + 1) (by omega) W
    simpa using this
  go_enter Tryd.func3, Tryd.ntmps3
  go_wp2_with (go_at_call 11; refine (sane_any _ HK.out).mono ?_; rintro e w1 ⟨rfl, hb1⟩; have HB1 := Lib.hid hb1; clear hb1)
  have hz1 : Hid (Row (w1.alloc (.cells (zrow (mn + 1)) 5)) w1.heap.size (List.replicate (mn + 1) 0)) := Lib.hid (row_new w1 (mn + 1))
  have hb1 := Lib.hid (HB1.out.trans ((one_new w1 (.cells (zrow (mn + 1)) 5)).mono HB1.out.size))
  have hsz1 := HB1.out.size
  have hN : b.length ≤ 300 := by omega
  clear mk
  generalize hW : w1.alloc (.cells (zrow (mn + 1)) 5) = W at *
  generalize w1.heap.size = gl at *
  go_loopw [27] (fun i wr => ∃ (k : Nat) (xs : List UInt8), k ≤ mn + 1 ∧ i = .int .i64 (k : Int) ∧ Hid (xs.length = mn + 1) ∧ Hid (Row wr gl xs) ∧ Hid (Chg gl W wr)) (fun i _ => mn + 1 - (intOf i).toNat)
  case atStart => exact ⟨0, _, Nat.zero_le _, rfl, Lib.hid (List.length_replicate ..), hz1, Lib.hid (Chg.refl _ _)⟩
  case round =>
    clear hz1
    obtain ⟨k, xs, hk, rfl, hxl, hrow, hch⟩ := hrel
    by_cases hlt : k < mn + 1
    · have g1 := hrow.out.get k (by rw [hxl.out]; exact hlt)
      have g2 := hrow.out.free k
      have g3 := fun c => hrow.out.set k c
      have i1 : (k : Int) < (mn : Int) + 1 := by omega
      clear g3
      unfold byt at g1
      by_cases hb0 : b.length = 0
      · have c3 : decide ((0 : Int) < (b.length : Int)) = false := decide_eq_false (by omega)
        go_wp2_with fail
        go_roundw
        case rel => exact ⟨k + 1, _, by omega, by go_num, Lib.hid (by rw [List.length_set]; exact hxl.out), Lib.hid (row_int hrow.out (by omega) (by omega)), Lib.hid (hch.out.set (.inl rfl) _)⟩
        case measure => simp [intOf]; omega
      · have c3 : decide ((0 : Int) < (b.length : Int)) = true := decide_eq_true (by omega)
        obtain ⟨o, rfl, hbl⟩ : ∃ o, p = some ⟨bb, o, none⟩ ∧ bb < w.heap.size := by
          rcases hbc.2.2.2 with h | ⟨o, h, h', _⟩
          · rw [h] at hb0; simp at hb0
          · exact ⟨o, h, h'⟩
        have hbw : BV wr _ b := (HV.out.below (Chg.below (m := w.heap.size) hb1.out hb1.out.size hsz1 hch.out))
        obtain ⟨b', cap', p', e', _, _, _, h4⟩ := hbw
        cases e'
        rcases h4 with h4 | ⟨o', e'', hblt, hcell⟩
        · rw [h4] at hb0; simp at hb0
        cases e''
        have hkm : k % b.length < b.length := Nat.mod_lt _ (Nat.pos_of_ne_zero hb0)
        have hbk := hcell (k % b.length) _ (List.getElem?_eq_getElem hkm)
        unfold byt at hbk
        generalize b[k % b.length] = bk at *
        have hne : ¬ bb = gl := by omega
        have hne2 : ¬ gl = bb := by omega
        have hbn0 : ¬ ((b.length : Int) = 0) := by omega
        clear hcell
        have hbk2 := bk.toNat_lt
        go_wp2_with fail
        go_roundw
        case rel => exact ⟨k + 1, _, by omega, by go_num, Lib.hid (by rw [List.length_set, List.length_set]; exact hxl.out), Lib.hid (row_int (row_int hrow.out (by omega) (by omega)) (by omega) (by omega)), Lib.hid ((hch.out.set (.inl rfl) _).set (.inl rfl) _)⟩
        case measure => simp [intOf]; omega
    · have i1 : ¬ (k : Int) < (mn : Int) + 1 := by omega
      have HBw := Lib.hid (Chg.below (m := w.heap.size) hb1.out hb1.out.size hsz1 hch.out)
      have hVl : Hid (BV wr (.slice (some ⟨gl, 0, none⟩) (mn + 1) (mn + 1)) xs) := Lib.hid ⟨gl, mn + 1, _, by rw [hxl.out], by rw [hxl.out]; exact Nat.le_refl _, by omega, (fun e => by cases e), row_arg hrow.out⟩
      have hxle : xs.length ≤ 256 := by rw [hxl.out]; omega
      clear hrow hch
      go_wp2_with fail
      have hbl := HBw.out.trans ((one_new wr (.cells #[.slice p b.length cap, .slice (some ⟨gl, 0, none⟩) (mn + 1) (mn + 1)] 22)).mono HBw.out.size)
      have hne := heap_alloc_new wr (.cells #[.slice p b.length cap, .slice (some ⟨gl, 0, none⟩) (mn + 1) (mn + 1)] 22)
      have hlt : wr.heap.size < (wr.alloc (.cells #[.slice p b.length cap, .slice (some ⟨gl, 0, none⟩) (mn + 1) (mn + 1)] 22)).heap.size := by rw [World.size_alloc]; omega
      have L0 : (wr.alloc (.cells #[.slice p b.length cap, .slice (some ⟨gl, 0, none⟩) (mn + 1) (mn + 1)] 22)).cell? ⟨wr.heap.size, 0, none⟩ = some (.slice p b.length cap) := by
        rw [World.cell?_alloc_new]; rfl
      have L1 : (wr.alloc (.cells #[.slice p b.length cap, .slice (some ⟨gl, 0, none⟩) (mn + 1) (mn + 1)] 22)).cell? ⟨wr.heap.size, 1, none⟩ = some (.slice (some ⟨gl, 0, none⟩) (mn + 1) (mn + 1)) := by
        rw [World.cell?_alloc_new]; rfl
      have HVx := Lib.hid (hVl.out.below (one_new wr (.cells #[.slice p b.length cap, .slice (some ⟨gl, 0, none⟩) (mn + 1) (mn + 1)] 22)))
      have HVb := Lib.hid (HV.out.below hbl)
      have HKl := Lib.hid (HK.out.below hbl)
      have HBl := Lib.hid hbl
      have LT := Lib.hid hlt
      have M0 := Lib.hid L0
      have M1 := Lib.hid L1
      clear hbl hne hlt L0 L1
      generalize hWl : wr.alloc (.cells #[.slice p b.length cap, .slice (some ⟨gl, 0, none⟩) (mn + 1) (mn + 1)] 22) = wl at *
      generalize wr.heap.size = ga at *
      go_loopw [53] (fun i w' => ∃ k : Nat, k ≤ 2 ∧ i = .int .i64 (k : Int) ∧ Hid (Below wl.heap.size wl w')) (fun i _ => 2 - (intOf i).toNat)
      case atStart => exact ⟨0, Nat.zero_le _, rfl, Lib.hid (Below.refl _ _)⟩
      case round =>
        obtain ⟨j, hj, rfl, hB⟩ := hrel
        have l0 := hB.out.cell (p := ⟨ga, 0, none⟩) LT.out
        have l1 := hB.out.cell (p := ⟨ga, 1, none⟩) LT.out
        rw [M0.out] at l0
        rw [M1.out] at l1
        have hj3 : j = 0 ∨ j = 1 ∨ j = 2 := by omega
        rcases hj3 with rfl | rfl | rfl
        · have heq : ∀ w, (Op.equalIn 10000 26 (dgv (sha b)) (dgv (sha b))).run Tryd.prog w = .ok true w := fun w => by rw [dg_equal _ _ (sha_len _) (sha_len _), beq_self_eq_true]
          have heq2 : ∀ w, (Op.equalIn 10000 26 (dgv (tg (bts s) b)) (dgv (tg (bts s) b))).run Tryd.prog w = .ok true w := fun w => by rw [dg_equal _ _ (tg_len _ _) (tg_len _ _), beq_self_eq_true]
          go_wp2_with (first
            | (have _ := HB5; fail)
            | (have _ := HB4; go_at_call 15; refine (rtagged_any s _ b w4 (by omega) (HVb.out.below HB4.out) (by omega)).mono ?_; rintro e w5 ⟨rfl, hb5⟩; have HB5 := Lib.hid (HB4.out.trans (hb5.mono HB4.out.size)); clear hb5)
            | (have _ := HB3; go_at_call 14; refine (tagged_any s _ b w3 (by omega) (HVb.out.below HB3.out) (by omega) (HKl.out.below HB3.out)).mono ?_; rintro e w4 ⟨rfl, hb4⟩; have HB4 := Lib.hid (HB3.out.trans (hb4.mono HB3.out.size)); clear hb4)
            | (have _ := HB2; go_at_call 13; refine (rsum_any _ b w2 (HVb.out.below HB2.out) (by omega)).mono ?_; rintro e w3 ⟨rfl, hb3⟩; have HB3 := Lib.hid (HB2.out.trans (hb3.mono HB2.out.size)); clear hb3)
            | (go_at_call 12; refine (sum_any _ b _ (HVb.out.below hB.out) (by omega) (HKl.out.below hB.out)).mono ?_; rintro e w2 ⟨rfl, hb2⟩; have HB2 := Lib.hid (hB.out.trans (hb2.mono hB.out.size)); clear hb2))
          go_roundw
          case rel => exact ⟨1, by omega, by go_num, HB5⟩
          case measure => simp [intOf]
        · have heq : ∀ w, (Op.equalIn 10000 26 (dgv (sha xs)) (dgv (sha xs))).run Tryd.prog w = .ok true w := fun w => by rw [dg_equal _ _ (sha_len _) (sha_len _), beq_self_eq_true]
          have heq2 : ∀ w, (Op.equalIn 10000 26 (dgv (tg (bts s) xs)) (dgv (tg (bts s) xs))).run Tryd.prog w = .ok true w := fun w => by rw [dg_equal _ _ (tg_len _ _) (tg_len _ _), beq_self_eq_true]
          go_wp2_with (first
            | (have _ := HB5; fail)
            | (have _ := HB4; go_at_call 15; refine (rtagged_any s _ xs w4 (by omega) (HVx.out.below HB4.out) (by omega)).mono ?_; rintro e w5 ⟨rfl, hb5⟩; have HB5 := Lib.hid (HB4.out.trans (hb5.mono HB4.out.size)); clear hb5)
            | (have _ := HB3; go_at_call 14; refine (tagged_any s _ xs w3 (by omega) (HVx.out.below HB3.out) (by omega) (HKl.out.below HB3.out)).mono ?_; rintro e w4 ⟨rfl, hb4⟩; have HB4 := Lib.hid (HB3.out.trans (hb4.mono HB3.out.size)); clear hb4)
            | (have _ := HB2; go_at_call 13; refine (rsum_any _ xs w2 (HVx.out.below HB2.out) (by omega)).mono ?_; rintro e w3 ⟨rfl, hb3⟩; have HB3 := Lib.hid (HB2.out.trans (hb3.mono HB2.out.size)); clear hb3)
            | (go_at_call 12; refine (sum_any _ xs _ (HVx.out.below hB.out) (by omega) (HKl.out.below hB.out)).mono ?_; rintro e w2 ⟨rfl, hb2⟩; have HB2 := Lib.hid (hB.out.trans (hb2.mono hB.out.size)); clear hb2))
          go_roundw
          case rel => exact ⟨2, by omega, by go_num, HB5⟩
          case measure => simp [intOf]
        · go_wp2_with fail
          go_ret
          exact ⟨rfl, HBl.out.trans (hB.out.mono HBl.out.size)⟩
end Go.Proofs.YtekboemijafplaaDoor
