/-
  Digest, the reference: Sum.
-/
import Derived.Test.YtekboemijafplaaDoorRPure
import Derived.Test.YtekboemijafplaaDoorRBlock
import Derived.Test.YtekboemijafplaaDoorLeaf
import Derived.Deep.RegionLaw
namespace Go.Proofs.YtekboemijafplaaDoor
open Go Go.RowKit
theorem rp_mod (l : List UInt8) : (rp l).length % 64 = 0 := by
  unfold rp
  simp only [List.length_append, List.length_replicate, List.length_cons, List.length_nil, lens_len]
  unfold nz
  omega
theorem rp_le (l : List UInt8) : (rp l).length ≤ l.length + 128 := by
  unfold rp
  simp only [List.length_append, List.length_replicate, List.length_cons, List.length_nil, lens_len]
  unfold nz
  omega
theorem s6_run {w : World} {g : Nat} {s0 : R8} (hl : S6 w g s0) (s : R8) : Sem.run Tryd.prog (storeCells ⟨g, 0, none⟩ (cells8 s).toList) w = .ok () (w.setRow g (cells8 s)) := by
  have h := run_storeCells_from (P := Tryd.prog) g 56 (cells8 s).toList 0 (cells8 s0) w hl (by rfl) (fun v hv => by
    simp [cells8] at hv
    rcases hv with rfl | rfl | rfl | rfl | rfl | rfl | rfl | rfl <;> rfl)
  simpa [cells8] using h
set_option maxRecDepth 100000 in
set_option maxHeartbeats 2000000 in
theorem rsum_any (v : Value) (l : List UInt8) (w : World) (hv : BV w v l) (hl : l.length ≤ 1000000) : Calls Tryd.prog 13 #[v] w (ShaR l w) := by
  have HV := Lib.hid hv
  have h1 : S6 ((w.alloc (.cells ((List.replicate 32 (0 : UInt8)).map byt).toArray 26)).alloc (.cells (cells8 zero8) 56)) (w.heap.size + 1) zero8 := by
    have := heap_alloc_new (w.alloc (.cells ((List.replicate 32 (0 : UInt8)).map byt).toArray 26)) (.cells (cells8 zero8) 56)
    rw [World.size_alloc] at this
    exact this
  have H1 := Lib.hid h1
  have hd1 : Dg ((w.alloc (.cells ((List.replicate 32 (0 : UInt8)).map byt).toArray 26)).alloc (.cells (cells8 zero8) 56)) w.heap.size (List.replicate 32 0) := (zeros32 w).below (one_new _ _)
  have hb1 : Below w.heap.size w ((w.alloc (.cells ((List.replicate 32 (0 : UInt8)).map byt).toArray 26)).alloc (.cells (cells8 zero8) 56)) := ((Below.refl _ _).alloc (Nat.le_refl _) _).alloc (by simp) _
  have hz1 : ((w.alloc (.cells ((List.replicate 32 (0 : UInt8)).map byt).toArray 26)).alloc (.cells (cells8 zero8) 56)).heap.size = w.heap.size + 2 := by simp
  have HD1 := Lib.hid hd1
  have HB1 := Lib.hid hb1
  have HZ1 := Lib.hid hz1
  clear h1 hd1 hb1 hz1 hv
  go_enter Tryd.func13, Tryd.ntmps13
  go_wp2_with (refine s6_store rfl (.tmp 3) (.tmp 8) rfl (w.heap.size + 1) zero8 iv H1.out rfl rfl ?_; rintro w2 hs2 hc2)
  have hd2 : Dg w2 w.heap.size (List.replicate 32 0) := (hc2.block _ (Nat.lt_of_lt_of_eq (by omega) HZ1.out.symm) (by omega)).trans HD1.out
  have hb2 := Chg.below HB1.out HB1.out.size (Nat.le_succ _) hc2
  have hz2 := Nat.le_trans (Nat.le_of_eq HZ1.out.symm) hc2.size
  clear hc2 H1 HD1 HB1 HZ1
  refine (rpad_any v l w2 (HV.out.below hb2) hl).mono ?_
  rintro e w3 ⟨vp, rfl, hop, hb3, hob⟩
  have hs3 := hs2.below hb3
  have hd3 := hd2.below hb3
  have hb3' := hb2.trans (hb3.mono hb2.size)
  have hz3 := hb3.size
  have hpm := rp_mod l
  have hpl := rp_le l
  have hpos : 0 < ((rp l).map byt).length := by rw [List.length_map]; unfold rp; simp only [List.length_append, lens_len]; omega
  obtain ⟨gp, cp, rfl, hgp⟩ := hop.form hpos
  have hgp2 := hob gp rfl
  have hbv := own_bv hop
  rw [List.length_map] at hbv ⊢
  have hbc : ∀ (j : Nat) (c : UInt8), (rp l)[j]? = some c → w3.cell? ⟨gp, j, none⟩ = some (byt c) := fun j c hj => by
    obtain ⟨b', cap', p', e', _, _, _, h4⟩ := hbv
    cases e'
    rcases h4 with h4 | ⟨o', e'', _, h5⟩
    · rw [h4] at hj; cases hj
    · cases e''
      have := h5 j c hj
      rwa [Nat.zero_add] at this
  have hcap : (rp l).length ≤ cp ∧ cp ≤ 9223372036854775807 := by
    obtain ⟨b', cap', p', e', h1, h2, _⟩ := hbv
    cases e'
    exact ⟨h1, h2⟩
  have hsh := sha_rp l
  have hfb : ∀ i k, 0 ≤ fb (rp l) i k ∧ fb (rp l) i k < 256 := fun i k => fb_lt (rp l) i k
  have hfc : ∀ i k, k < 64 → 64 * i + 64 ≤ (rp l).length → w3.cell? ⟨gp, 64 * i + k, none⟩ = some (.int .u8 (fb (rp l) i k)) := fun i k hk hi => by
    have hlt : 64 * i + k < (rp l).length := by omega
    rw [hbc _ _ (List.getElem?_eq_getElem hlt)]
    simp [byt, fb, List.getD, List.getElem?_eq_getElem hlt]
  have HF := Lib.hid hfc
  have HFB := Lib.hid hfb
  have HSH := Lib.hid hsh
  have HCAP := Lib.hid hcap
  generalize rp l = P at *
  generalize hM : P.length = M at *
  clear hop hob hbv hbc hfc hfb hsh HV hpos hb3 hd2 hs2 hb2
  go_wp2_with fail
  go_loopw [5] (fun i wr => ∃ k : Nat, k ≤ M / 64 ∧ i = .int .i64 ((64 * k : Nat) : Int) ∧ Hid (S6 wr (w.heap.size + 1) (feed P iv k)) ∧ Hid (Chg (w.heap.size + 1) w3 wr)) (fun i _ => M - (intOf i).toNat)
  case atStart => exact ⟨0, Nat.zero_le _, rfl, Lib.hid hs3, Lib.hid (Chg.refl _ _)⟩
  case round =>
    clear hs3
    obtain ⟨k, hk, rfl, hs, hc⟩ := hrel
    by_cases hlt : k < M / 64
    · have c1 : decide (((64 * k : Nat) : Int) < (M : Int)) = true := by simp; omega
      have hcap := HCAP.out
      have hbl := rblock_any gp (64 * k) (fb P k) (feed P iv k) (cp - 64 * k) wr.drew (by omega) (by omega) (HFB.out k) (Nat.lt_of_lt_of_le hgp hc.out.size) (fun j hj => by
        have h9 : wr.drew.cell? ⟨gp, 64 * k + j, none⟩ = wr.cell? ⟨gp, 64 * k + j, none⟩ := rfl
        rw [h9, hc.out.cell hgp (by omega)]
        exact HF.out k j hj (by omega))
      obtain ⟨X, hX⟩ : ∃ X, X = ab (fb P k) (feed P iv k) := ⟨_, rfl⟩
      have hbl2 : Calls Tryd.prog 33 #[.agg (cells8 (feed P iv k)), .slice (some ⟨gp, 64 * k, none⟩) 64 (cp - 64 * k)] wr.drew (fun e w' => e = .returned (.agg (cells8 X)) ∧ Below wr.drew.heap.size wr.drew w') := by
        rw [hX]
        exact hbl
      have HBL := Lib.hid hbl2
      have s0 := hs.out.cell (k := 0) (by decide)
      have s1 := hs.out.cell (k := 1) (by decide)
      have s2 := hs.out.cell (k := 2) (by decide)
      have s3 := hs.out.cell (k := 3) (by decide)
      have s4 := hs.out.cell (k := 4) (by decide)
      have s5 := hs.out.cell (k := 5) (by decide)
      have s6 := hs.out.cell (k := 6) (by decide)
      have s7 := hs.out.cell (k := 7) (by decide)
      simp only [nth8] at s0 s1 s2 s3 s4 s5 s6 s7
      have hfd : feed P iv (k + 1) = X := by rw [hX]; rfl
      have HFD := Lib.hid hfd
      clear hbl hbl2 hfd hX
      generalize feed P iv k = s at *
      have hnk0 : 64 * k + 64 ≤ M := by omega
      have hnk1 : 64 * k % 64 = 0 := by omega
      generalize hnk : 64 * k = nk at *
      have e64 : IntKind.i64.wrap ((nk : Int) + 64) = (nk : Int) + 64 := IntWalk.i64_in _ (by omega)
      have f1 : (0 : Int) ≤ (nk : Int) + 64 := by omega
      have f2 : (nk : Int) + 64 ≤ (cp : Int) := by omega
      have f3 : ((nk : Int) + 64).toNat = nk + 64 := by omega
      have hne : ¬ cp = nk := by omega
      have hne2 : nk ≤ nk + 64 := by omega
      have HNK := Lib.hid hnk
      clear hnk
      go_wp2_with fail
      have hS0 : Hid (S6 wr.drew (w.heap.size + 1) s) := Lib.hid hs.out
      have hC0 : Hid (Chg (w.heap.size + 1) w3 wr.drew) := Lib.hid ⟨hc.out.os, hc.out.tape, hc.out.output, hc.out.size, hc.out.block⟩
      clear hs hc
      go_region_law (first
        | (go_simp; go_at_call 33; (try rw [show nk + 64 - nk = 64 by omega]); refine HBL.out.mono ?_; rintro e w5 ⟨rfl, hb5⟩
           have hS5 := hS0.out.below hb5
           have hC5 := Lib.hid (hC0.out.trans (Chg.of_below hb5))
           have hst := s6_run hS5 X
           have hsz : (cells8 X).size = 8 := rfl))
      have hs6 : S6 (w5.setRow (w.heap.size + 1) (cells8 X)) (w.heap.size + 1) X := setRow_heap _ _ _ _ _ _ hS5
      have hc6 := chg_row w5 (w.heap.size + 1) (cells8 X)
      go_wp2_with fail
      go_roundw
      case rel => exact ⟨k + 1, by omega, by have := HNK.out; go_num, Lib.hid (by rw [HFD.out]; exact hs6), Lib.hid (hC5.out.trans hc6)⟩
      case measure => simp [intOf]; have := HNK.out; omega
    · have hkm : k = M / 64 := by omega
      have c1 : decide (((64 * k : Nat) : Int) < (M : Int)) = false := by simp; omega
      rw [hkm] at hs
      have hS := Lib.hid hs.out
      clear hs
      generalize feed P iv (M / 64) = sF at *
      have hz0 : Hid (Dg (wr.alloc (.cells ((List.replicate 32 (0 : UInt8)).map byt).toArray 26)) wr.heap.size (List.replicate 32 0)) := Lib.hid (zeros32 wr)
      go_wp2_with (refine dg_store rfl (.tmp 6) (.tmp 24) rfl wr.heap.size (List.replicate 32 0) (List.replicate 32 0) hz0.out (by simp) (by simp) rfl rfl ?_; rintro w4 hd4 hc4)
      have hcb : Below wr.heap.size wr w4 := Chg.below (one_new wr _) (one_new wr _).size (Nat.le_refl _) hc4
      have hS4 := Lib.hid (hS.out.below hcb)
      have hD4 : Hid (Dg w4 w.heap.size (List.replicate 32 0)) := Lib.hid (Dg.below (w := wr) ((hc.out.block _ (by omega) (by omega)).trans hd3) hcb)
      have hB4 := Lib.hid ((Chg.below hb3' hb3'.size (Nat.le_succ _) hc.out).trans (hcb.mono (Nat.le_trans hb3'.size hc.out.size)))
      have hsz := hc.out.size
      clear hcb hc hd3 hb3' hz0 hS hc4
      generalize wr.heap.size = g6 at *
      go_wp2_with fail
      go_loopw [7] (fun i wr' => ∃ k : Nat, k ≤ 32 ∧ i = .int .i64 (k : Int) ∧ Hid (Dg wr' g6 (part32 sF k)) ∧ Hid (Chg g6 w4 wr')) (fun i _ => 32 - (intOf i).toNat)
      case atStart => exact ⟨0, Nat.zero_le _, rfl, Lib.hid hd4.out, Lib.hid (Chg.refl _ _)⟩
      case round =>
        clear hlt hk c1 hkm
        obtain ⟨k, hk, rfl, hd, hc⟩ := hrel
        by_cases hlt : k < 32
        · have hst : S6 wr (w.heap.size + 1) sF := hS4.out.chg hc.out (by omega)
          have c1 := hst.cell (show k / 4 < 8 by omega)
          have c2 := hd.out.get k (by rw [part_len sF hk]; exact hlt)
          have f2 := hd.out.free k
          have r2 := hd.out.set k (sb sF k)
          rw [part_set sF hlt] at r2
          have HR := Lib.hid r2
          have hsb : byt (sb sF k) = .int .u8 (nth8 sF (k / 4) / 2 ^ (8 * (3 - k % 4)) % 256) := u8i_byt _
          have HBy := Lib.hid hsb
          unfold byt at c2
          have HC := Lib.hid hc.out
          clear hst hd r2 hsb hc
          have b1 : (k : Int) < 32 := by omega
          go_wp2_with fail
          go_roundw
          case rel => exact ⟨k + 1, by omega, by go_num, Lib.hid (by rw [show 24 - 8 * (k % 4) = 8 * (3 - k % 4) by omega, ← HBy.out]; exact HR.out), Lib.hid (HC.out.set (.inl rfl) _)⟩
          case measure => simp [intOf]; omega
        · have hd32 : Dg wr g6 (digof sF) := by
            have e : k = 32 := by omega
            have := hd.out
            rw [e, part_full] at this
            exact this
          have HR := Lib.hid hd32
          have hD5 : Hid (Dg wr w.heap.size (List.replicate 32 0)) := Lib.hid ((hc.out.block _ (Array.getElem?_eq_some_iff.1 hD4.out).1 (by omega)).trans hD4.out)
          have hB5 := Lib.hid (Chg.below hB4.out hB4.out.size (by omega) hc.out)
          clear hd hd32
          go_wp2_with (first
            | (refine dg_load rfl (.tmp 6) rfl g6 _ HR.out (digof_len sF) rfl ?_)
            | (refine dg_store rfl (.tmp 2) (.tmp 41) rfl w.heap.size _ _ hD5.out (by simp) (digof_len sF) rfl rfl ?_; rintro w6 hd6 hc6))
          rw [← HSH.out] at hd6
          exact bodyPost_ret (results_cell_row rfl _ _ w.heap.size 26 _ (0, 0) _ rfl hd6.out Tryd.underlying26 rfl (dg_size (sha_len _))) rfl ⟨rfl, Chg.below hB5.out hB5.out.size (Nat.le_refl _) hc6⟩
end Go.Proofs.YtekboemijafplaaDoor
