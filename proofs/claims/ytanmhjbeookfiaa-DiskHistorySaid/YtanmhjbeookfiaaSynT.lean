/-
  Disks: Sync in which the disk stops.
-/
import Derived.Test.YtanmhjbeookfiaaSyn
namespace Go.Proofs.Ytanmhjbeookfiaa
open Go Go.RowKit
theorem put_64 (G k N cap : Nat) (s : List (List UInt8)) (dv : Value) (d : List UInt8) (w : World) (hs : OS w G s) (hN : s.length = N) (hk : k < N) (hc : N ≤ cap) (hm : cap ≤ 9223372036854775807) (hd : BVx G w dv d) :
    Calls Try.prog 38 #[.slice (some ⟨G, 0, none⟩) N cap, .agg #[.int .i64 (k : Int), dv], .int .i64 64] w (PutR G (putL s k d 64) w) := put_any G k N cap 64 s dv d w hs hN hk hc hm hd (by omega)
set_option maxHeartbeats 2000000 in
theorem sync_any_torn (v : Value) (d : D) (w : World) (h : DV w v d) (hr : runsB d = true) (hfull : many d < (d.p.length : Int)) : Calls Try.prog 23 #[v] w (RetD (syncD d) (syncE d) w) := by
  obtain ⟨ps, N, cs, pp, M, cp, rfl, HO, hs1, hs2, hp1, hp2⟩ := h.op
  clear h
  have HR : Hid (∀ w', Below w.heap.size w w' → Calls Try.prog 31 #[dval d ps N cs pp M cp] w' (Ret (.bool (runsB d)) w')) := Lib.hid fun w' hb => runs_any _ d w' (HO.out.below hb).dv
  have HP : Hid (∀ w', Below w.heap.size w w' → Calls Try.prog 36 #[dval d ps N cs pp M cp] w' (Ret (.int .i64 (many d)) w')) := Lib.hid fun w' hb => performed_any _ d w' (HO.out.below hb).dv
  rw [hr] at HR
  obtain ⟨hv, hst⟩ := runs_of hr
  obtain ⟨v1, v2, v3, v4, v5, v6, v7⟩ := valid_of hv
  have hN := HO.out.n
  have hM := HO.out.m
  rw [hN] at v1 v2 v5
  rw [hM] at v4
  obtain ⟨m, hm⟩ : ∃ m : Nat, many d = (m : Int) := Int.eq_ofNat_of_zero_le (by unfold many; repeat' split
                                                                                all_goals omega)
  have hmM : m ≤ M := by
    have : many d ≤ M := by unfold many; rw [hM]; repeat' split
                            all_goals omega
    omega
  rw [hm] at HP
  rw [hM, hm] at hfull
  have hmM2 : m < M := by omega
  have hlm : d.left = m := by
    have e := hm
    unfold many at e
    rw [hM] at e
    by_cases h1 : d.left = -1
    · rw [if_pos h1] at e; omega
    · rw [if_neg h1] at e
      by_cases h2 : d.left < M
      · rw [if_pos h2] at e; exact e
      · rw [if_neg h2] at e; omega
  have hSL : synLeft d = d.left - (m : Int) := by unfold synLeft; rw [if_neg (by omega), hm]
  have HSL := Lib.hid hSL
  obtain ⟨pb, po, n, pu, L, cu, l, rfl, hpb, g0, g1, HL2, hu1, hu2, hw⟩ := HO.out.penAt m hmM2
  unfold maxLen at hu2
  have hpn := List.all_eq_true.1 v5 _ (List.mem_of_getElem? HL2.out.1)
  obtain ⟨q0, q1, q2⟩ := penB_of hpn
  obtain ⟨k, rfl⟩ := Int.eq_ofNat_of_zero_le q0
  have hkN : k < N := by simp only at q1; omega
  have HPM0 : Hid ((d.p.take m).all (penB N) = true) := Lib.hid (by
    rw [List.all_eq_true]
    intro x hx
    exact List.all_eq_true.1 v5 x (List.mem_of_mem_take hx))
  have HPE := Lib.hid (perf_eq (d.p.take m) d.s v3 (by rw [hN]; exact HPM0.out))
  have HST := Lib.hid (sync_torn hr hm HL2.out.1)
  have HQ2 := Lib.hid q2
  have hmM3 : (m : Int) < (M : Int) := by omega
  have hl1 : (d.left != -1) = true := by simp; omega
  have hne1 : ¬ pb = w.heap.size := by omega
  have hne2 : ¬ w.heap.size = pb := by omega
  have HG0 := Lib.hid g0
  have HG1 := Lib.hid g1
  have HV := Lib.hid (And.intro hr (And.intro hst (And.intro v3 (And.intro v5 (And.intro hm (And.intro hN hM))))))
  clear hr hv hst v3 v5 hm hN hM hfull hpn q0 q1 q2 hSL g0 g1
  have HLM := Lib.hid hlm
  clear hlm
  go_enter Try.func23, Try.ntmps23
  go_wp2_with (go_at_call 31; refine (HR.out _ (two_below _ _ _)).mono ?_; rintro e w1 ⟨rfl, hb1⟩; obtain ⟨⟨c0, c1, c2, c3⟩, r, f, hz1⟩ := boxedR (by simp) hb1; have HB := Lib.hid (two_later hb1); have HB0 := Lib.hid hb1; clear hb1)
  have C0 := Later.cell (by omega) c0
  have C1 := Later.cell (by omega) c1
  have C2 := Later.cell (by omega) c2
  have C3 := Later.cell (by omega) c3
  have HPL := fun x : Later w1 => HP.out x.v (HB.out.trans (x.b.mono HB.out.size))
  clear c0 c1 c2 c3
  refine wp_region_later (by kernel_rfl) (by kernel_rfl) ?_
  repeat (go_big_quiet_step ((go_at_call 36; exact Later.calls (HPL _))))
  refine wpQuiet_nil ?_
  intro _ hw'
  obtain ⟨x, hx⟩ := hw'
  subst hx
  have hb2 := HB0.out.trans (x.b.mono HB0.out.size)
  clear C0 C1 C2 C3 HPL HB HB0 r f hz1
  generalize x.v = w2 at *
  obtain ⟨⟨c0, c1, c2, c3⟩, r, f, hz2⟩ := boxedR (by simp) hb2
  have HB2 := Lib.hid (two_later hb2)
  clear hb2
  have hmi : (m : Int) ≤ (cp : Int) := by omega
  have HPV : Hid (PV w2 (.slice (some ⟨pb, po, none⟩) m m) (d.p.take m)) := Lib.hid ((HO.out.below HB2.out).pen.take HO.out.m m m hmM (Nat.le_refl _) (by omega))
  have HSV : Hid (SV w2 (.slice ps N cs) d.s) := Lib.hid (HO.out.below HB2.out).sec
  have HPM : Hid ((d.p.take m).length = m ∧ (d.p.take m).all (penB N) = true) := Lib.hid ⟨by rw [List.length_take, HO.out.m]; omega, by
    rw [List.all_eq_true]
    intro x hx
    exact List.all_eq_true.1 HV.out.2.2.2.1 x (List.mem_of_mem_take hx)⟩
  go_wp2_with fail
  refine wp_region_still_tail 6 (by kernel_rfl) (by kernel_rfl) ?_
  simp only [List.take_succ_cons, List.take_zero, List.drop_succ_cons, List.drop_zero]
  have hmm : (m : Int) ≤ (m : Int) := Int.le_refl _
  iterate 5 still_step
  still_step
  refine wpStill_nil ?_
  change wpList _ _ _ _ _ w2.drew
  have hdr : Below w2.heap.size w2 w2.drew := ⟨rfl, rfl, rfl, Nat.le_refl _, fun _ _ => rfl⟩
  have HB3 := Lib.hid (HB2.out.trans (hdr.mono HB2.out.size))
  have HPV3 := Lib.hid (HPV.out.below hdr)
  have HSV3 := Lib.hid (HSV.out.below hdr)
  have c0 := (bcells hdr (by omega) _).trans c0
  have c1 := (bcells hdr (by omega) _).trans c1
  have c2 := (bcells hdr (by omega) _).trans c2
  have c3 := (bcells hdr (by omega) _).trans c3
  have r3 := Lib.hid ((hdr.block _ hz2).trans r.out)
  have f3 : ∀ o, w2.drew.frozen? ⟨w.heap.size, o, none⟩ = false := f
  have hz3 : w.heap.size + 1 < w2.drew.heap.size := hz2
  clear hdr HB2 HPV HSV r f hz2
  generalize w2.drew = w3 at *
  go_wp2_with fail
  refine (after_any _ _ N cs _ _ d.s (d.p.take _) _ HSV3.out HO.out.n v2 hs1 hs2 HPV3.out HPM.out.1 (Nat.le_refl _) (by omega) HPM.out.2).mono ?_
  rintro e w4 ⟨G, rfl, hG, hos, hb4⟩
  have c0' := (bcells hb4 (by omega) _).trans c0
  have c1' := (bcells hb4 (by omega) _).trans c1
  have c2' := (bcells hb4 (by omega) _).trans c2
  have c3' := (bcells hb4 (by omega) _).trans c3
  have r4 := Lib.hid ((hb4.block _ hz3).trans r3.out)
  have f4 : (∀ o, w4.frozen? ⟨w.heap.size, o, none⟩ = false) := (fun o => (bfrozen hb4 (by omega) o).trans (f3 o))
  have HB4 := Lib.hid (HB3.out.trans (hb4.mono HB3.out.size))
  have HOS := Lib.hid hos
  have hz4 : w.heap.size + 1 < G := (by omega)
  have g0' := (bcells HB4.out hpb _).trans HG0.out
  have g1' := (bcells HB4.out hpb _).trans HG1.out
  have hz5 : w.heap.size < w4.heap.size := by have := hb4.size; omega
  clear hb4 hos c0 c1 c2 c3 r3 f3
  go_upto_region 9 with fail
  obtain ⟨w7, hw7⟩ : ∃ w7, w7 = ((w4.setCell ⟨w.heap.size, 0, none⟩ (.slice (some ⟨G, 0, none⟩) N N)).setCell ⟨w.heap.size, 1, none⟩ (.slice none 0 0)).setCell ⟨w.heap.size, 2, none⟩ (.int .i64 (d.left - (m : Int))) := ⟨_, rfl⟩
  rw [← hw7]
  have e0 : w7.cell? ⟨w.heap.size, 0, none⟩ = some (.slice (some ⟨G, 0, none⟩) N N) := by
    rw [hw7, sc_other (by decide), sc_other (by decide)]
    exact World.cell?_setCell_same _ _ _ (by rw [c0'])
  have e1 : w7.cell? ⟨w.heap.size, 1, none⟩ = some (.slice none 0 0) := by
    rw [hw7, sc_other (by decide)]
    exact World.cell?_setCell_same _ _ _ (by rw [sc_other (by decide), c1'])
  have e2 : w7.cell? ⟨w.heap.size, 2, none⟩ = some (.int .i64 (d.left - (m : Int))) := by
    rw [hw7]
    exact World.cell?_setCell_same _ _ _ (by rw [sc_other (by decide), sc_other (by decide), c2'])
  have e3 : w7.cell? ⟨w.heap.size, 3, none⟩ = some (.bool d.st) := by rw [hw7, sc_other (by decide), sc_other (by decide), sc_other (by decide)]; exact c3'
  have r7 : Hid (w7.heap[w.heap.size + 1]? = some (.cells #[.slice none 0 0, .slice none 0 0, .int .i64 0, .bool false] 25 (0, 0))) := Lib.hid (by rw [hw7]; exact row_set (row_set (row_set r4.out (by omega)) (by omega)) (by omega))
  have f7 : ∀ o, w7.frozen? ⟨w.heap.size, o, none⟩ = false := fun o => by rw [hw7, World.frozen?_setCell, World.frozen?_setCell, World.frozen?_setCell]; exact f4 o
  have HB7 : Hid (Below w.heap.size w w7) := Lib.hid (by rw [hw7]; exact below_set (below_set (below_set HB4.out (Nat.le_refl _) _) (Nat.le_refl _) _) (Nat.le_refl _) _)
  have hs7 : w7.heap.size = w4.heap.size := by rw [hw7]; simp [World.setCell]
  have HOS7 : Hid (OS w7 G (perf d.s (d.p.take m))) := Lib.hid (by rw [hw7]; exact HOS.out.box3 (by omega) c0' c1' c2' nb_slice nb_slice nb_i64 _ _ _)
  have HX4 := (BVx.of_new (G := G) HL2.out.2.2 (by have := HB3.out.size; omega)).below HB4.out
  have HX7 : Hid (BVx G w7 (.slice pu L cu) l) := Lib.hid (by
    rw [hw7]
    exact ((HX4.setBox c0' nb_slice _).setBox ((sc_other (by decide)).trans c1') nb_slice _).setBox ((sc_other (by decide)).trans ((sc_other (by decide)).trans c2')) nb_i64 _)
  have g07 := (bcells HB7.out hpb _).trans HG0.out
  have g17 := (bcells HB7.out hpb _).trans HG1.out
  have hz7 : w.heap.size + 1 < w7.heap.size := by have := (Array.getElem?_eq_some_iff.1 r7.out).1; exact this
  clear hw7 c0' c1' c2' c3' r4 f4 HB4 HOS hs7 HX4 hz5 g0' g1'
  refine wp_region_still_tail 6 (by kernel_rfl) (by kernel_rfl) ?_
  simp only [List.take_succ_cons, List.take_zero, List.drop_succ_cons, List.drop_zero]
  iterate 6 still_step
  refine wpStill_nil ?_
  change wpList _ _ _ _ _ w7.drew
  have hdr : Below w7.heap.size w7 w7.drew := ⟨rfl, rfl, rfl, Nat.le_refl _, fun _ _ => rfl⟩
  have e0 := (bcells hdr (by omega) _).trans e0
  have e1 := (bcells hdr (by omega) _).trans e1
  have e2 := (bcells hdr (by omega) _).trans e2
  have e3 := (bcells hdr (by omega) _).trans e3
  have r8 := Lib.hid ((hdr.block _ hz7).trans r7.out)
  have f8 : ∀ o, w7.drew.frozen? ⟨w.heap.size, o, none⟩ = false := f7
  have HB8 := Lib.hid (HB7.out.trans (hdr.mono HB7.out.size))
  have HOS8 := Lib.hid (HOS7.out.below hdr)
  have HX8 := Lib.hid (HX7.out.below hdr)
  have hz8 : w.heap.size + 1 < w7.drew.heap.size := hz7
  clear hdr r7 f7 HB7 HOS7 HX7 hz7 g07 g17
  generalize w7.drew = w8 at *
  have HLN := Lib.hid (show (perf d.s (d.p.take m)).length = N by rw [perf_len]; exact HO.out.n)
  go_wp2_with fail
  refine (put_64 G k N N _ (.slice pu L cu) l _ HOS8.out HLN.out hkN (Nat.le_refl _) (by omega) HX8.out).mono ?_
  rintro e w9 ⟨rfl, hos9, hc9⟩
  have e0' := (hc9.cell (o := 0) (show w.heap.size < w8.heap.size by omega) (by omega)).trans e0
  have e1' := (hc9.cell (o := 1) (show w.heap.size < w8.heap.size by omega) (by omega)).trans e1
  have e2' := (hc9.cell (o := 2) (show w.heap.size < w8.heap.size by omega) (by omega)).trans e2
  have e3' := (hc9.cell (o := 3) (show w.heap.size < w8.heap.size by omega) (by omega)).trans e3
  have f9 : ∀ o, w9.frozen? ⟨w.heap.size, o, none⟩ = false := fun o => (World.frozen?_of_block (w := w8) (a := ⟨w.heap.size, o, none⟩) (hc9.block w.heap.size (by omega) (by omega))).trans (f8 o)
  have r9 := Lib.hid ((hc9.block (w.heap.size + 1) hz8 (by omega)).trans r8.out)
  have HB9 := Lib.hid (Chg.below HB8.out (Nat.le_trans (by omega) HB8.out.size) (by omega) hc9)
  have HOS9 := Lib.hid hos9
  clear e0 e1 e2 e3 f8 r8 HB8 HOS8 HX8 hos9 hc9
  go_wp2_with (refine dk_store rfl (.tmp 2) (.tmp 43) rfl (w.heap.size + 1) _ _ _ _ _ (row_set r9.out (by omega)) rfl rfl rfl ⟨rfl, rfl, rfl, rfl⟩ ?_; rintro w5 r5 hc5)
  have hos5 := (HOS9.out.setBox (by omega) e3' nb_bool (.bool true)).chgRow (by omega) (row_set r9.out (by omega)) zero_nb hc5
  have hb5 : Below w.heap.size w w5 := Chg.below (below_set HB9.out (Nat.le_refl _) _) (by have := HB9.out.size; simpa [World.setCell] using this) (by omega) hc5
  have hgl : ((perfR d.s (d.p.take m)).getD k []).length = 128 := getD_sec HPE.out.2.1 (by rw [HPE.out.2.2, HO.out.n]; exact hkN)
  rw [HPE.out.1, putL_torn hgl HQ2.out] at hos5
  exact bodyPost_ret (results_dk rfl _ _ _ _ _ _ _ _ rfl rfl r5.out) rfl (RetD.of (HST.out.1.trans (by rw [HSL.out]; rfl)) HST.out.2 (dv_os hos5 (by rw [List.length_set, HPE.out.2.2]; exact HO.out.n) v2 (by unfold W64; omega)) hb5)
theorem sync_any (v : Value) (d : D) (w : World) (h : DV w v d) : Calls Try.prog 23 #[v] w (RetD (syncD d) (syncE d) w) := by
  cases hr : runsB d
  · exact sync_any_no v d w h hr
  · have hle : many d ≤ (d.p.length : Int) := by unfold many; repeat' split
                                                 all_goals omega
    by_cases hf : many d = (d.p.length : Int)
    · exact sync_any_full v d w h hr hf
    · exact sync_any_torn v d w h hr (by omega)
end Go.Proofs.Ytanmhjbeookfiaa
