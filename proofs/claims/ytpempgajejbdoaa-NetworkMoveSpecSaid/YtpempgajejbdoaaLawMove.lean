/-
  NetworkMoveSpec's own body: it returns true.
-/
import Derived.Test.YtpempgajejbdoaaMov
namespace Go.Proofs.Ytpempgajejbdoaa
open Go Go.RowKit
theorem chg2 {g : Nat} {w w1 : World} {B : Nat} {a b : Value} (hc : Chg g w w1) (hB : B < w.heap.size) (hne : B ≠ g) (h : w.cell? ⟨B, 0, none⟩ = some a ∧ w.cell? ⟨B, 1, none⟩ = some b) : w1.cell? ⟨B, 0, none⟩ = some a ∧ w1.cell? ⟨B, 1, none⟩ = some b :=
  ⟨(hc.cell hB hne).trans h.1, (hc.cell hB hne).trans h.2⟩
theorem rowB (w : World) (o o' : Obj) : ((w.alloc o).alloc o').heap[w.heap.size + 1]? = some o' := by
  have := heap_alloc_new (w.alloc o) o'
  rwa [World.size_alloc] at this
set_option maxRecDepth 20000 in
set_option maxHeartbeats 8000000 in
theorem lawMove (v : Value) (n : Nt) (at0 a b : Int) (on : Bool) (w : World) (h : NV Ev w v n) (hsane : ∀ w : World, Calls Try.prog 9 #[] w (Ret (.bool true) w)) : Calls Try.prog 4 #[v, .int .i64 at0, .int .i64 a, .int .i64 b, .bool on] w (Ret (.bool true) w) := by
  obtain ⟨pq, N, cq, pa, M, ca, rfl, HO, hq1, hq2, ha1, ha2⟩ := h.lo.op
  have HSN := Lib.hid hsane
  clear h hsane
  go_enter Try.func4, Try.ntmps4
  go_wp2_with fail
  refine (HSN.out _).mono ?_
  rintro e w1 ⟨rfl, hb1⟩
  obtain ⟨t0, t1⟩ := keep2 hb1 (by simp) (new2 w (.slice pq N cq) (.slice pa M ca) 25)
  have hz1 : w.heap.size < w1.heap.size := by have := hb1.size; simp at this; omega
  have HB1 := Lib.hid (one_later hb1)
  clear hb1 HSN
  have hf := few_any _ n w1 (HO.out.below HB1.out).nv
  cases hfew : fewB n
  · rw [hfew] at hf
    have HF := Lib.hid hf
    clear hf hfew
    go_wp2_with fail
    refine HF.out.mono ?_
    rintro e w2 ⟨rfl, hb2⟩
    go_wp2_with fail
    go_ret
    exact ⟨rfl, HB1.out.trans (hb2.mono HB1.out.size)⟩
  rw [hfew] at hf
  have HF := Lib.hid hf
  clear hf hfew
  go_wp2_with fail
  refine HF.out.mono ?_
  rintro e w2 ⟨rfl, hb2⟩
  have cc := keep2 hb2 (by omega) ⟨t0, t1⟩
  clear t0 t1
  obtain ⟨t0, t1⟩ := cc
  have hz2 : w.heap.size < w2.heap.size := by have := hb2.size; omega
  have HB2 := Lib.hid (HB1.out.trans (hb2.mono HB1.out.size))
  clear hb2 HF HB1 hz1
  have hd := cut_g (HO.out.below HB2.out) a b on
  go_wp2_with fail
  refine hd.mono ?_
  clear hd
  rintro e w3 ⟨q3, N3, k3, a3, M3, l3, rfl, HN3, hb3⟩
  have cc := keep2 hb3 (by omega) ⟨t0, t1⟩
  clear t0 t1
  obtain ⟨t0, t1⟩ := cc
  have hz3 : w.heap.size < w3.heap.size := by have := hb3.size; omega
  have HB3 := Lib.hid (HB2.out.trans (hb3.mono HB2.out.size))
  clear hb3 HB2 hz2
  have hd := rcut_g ((HO.out.below HB3.out).below (one_new w3 (.cells #[.slice q3 N3 k3, .slice a3 M3 l3] 25))) a b on
  go_wp2_with fail
  refine hd.mono ?_
  clear hd
  rintro e w4 ⟨q4, N4, k4, a4, M4, l4, rfl, HN4, hb4⟩
  have cc := keep2 (one_later hb4) (by omega) ⟨t0, t1⟩
  clear t0 t1
  obtain ⟨t0, t1⟩ := cc
  obtain ⟨s0, s1⟩ := keep2 hb4 (by simp) (new2 w3 (.slice q3 N3 k3) (.slice a3 M3 l3) 25)
  have hy4 : w3.heap.size < w4.heap.size := by have := hb4.size; simp at this; omega
  have HN3' := Lib.hid (HN3.out.below (one_later hb4))
  have HB4 := Lib.hid (HB3.out.trans ((one_later hb4).mono HB3.out.size))
  clear hb4 HB3 HN3
  generalize cutE n a b = E
  have hE : (E != E) = false := by simp
  go_upto_region 7 with fail
  have hb5 := one_new w4 (.cells #[.slice q4 N4 k4, .slice a4 M4 l4] 25)
  have cc := keep2 hb5 (by omega) ⟨t0, t1⟩
  clear t0 t1
  obtain ⟨t0, t1⟩ := cc
  have cc := keep2 hb5 hy4 ⟨s0, s1⟩
  clear s0 s1
  obtain ⟨s0, s1⟩ := cc
  obtain ⟨r0, r1⟩ := new2 w4 (.slice q4 N4 k4) (.slice a4 M4 l4) 25
  have hz5 : w.heap.size < (w4.alloc (.cells #[.slice q4 N4 k4, .slice a4 M4 l4] 25)).heap.size := by simp; omega
  have HNa := Lib.hid (HN3'.out.below hb5)
  have HNb := Lib.hid (HN4.out.below hb5)
  have HB5 := Lib.hid (HB4.out.trans (hb5.mono HB4.out.size))
  clear hb5 HN3' HN4 HB4 hz3 hy4
  generalize (w4.alloc (.cells #[.slice q4 N4 k4, .slice a4 M4 l4] 25)) = W at *
  have hs := same_any _ _ _ _ W HNa.out.nv HNb.out.nv
  rw [sameN_self] at hs
  have HS := Lib.hid hs
  clear hs HNa HNb
  go_wp2_with (go_at_call 15; refine HS.out.mono ?_; rintro e V ⟨rfl, hV⟩; have cc := keep2 hV hz5 ⟨t0, t1⟩; clear t0 t1; obtain ⟨t0, t1⟩ := cc; have HV := Lib.hid (HB5.out.trans (hV.mono HB5.out.size)); have hzV : w.heap.size < V.heap.size := Nat.lt_of_lt_of_le hz5 hV.size; clear hV HB5 HS s0 s1 r0 r1 hE)
  have HBV0 := Lib.hid (one_new V (.cells #[.int .i64 at0] 3))
  have HIO := Lib.hid (ownI_one V at0 3)
  obtain ⟨i0, hi0, hz0, hsz0, hby0⟩ := inf3
  go_loopw [15, 16] (fun v i wr => ∃ k : Nat, k ≤ 3 ∧ i = .int .i64 k ∧ ∃ L : List Int, L.length = k + 1 ∧ Hid (OwnI V.heap.size wr v L) ∧ Hid (Below V.heap.size V wr)) (fun _ i _ => 3 - (intOf i).toNat)
  case atStart => exact ⟨0, by omega, rfl, [at0], rfl, HIO, HBV0⟩
  case round =>
    obtain ⟨k, hk, rfl, L, hL, HOI, HBR⟩ := hrel
    have hw1 : IntKind.i64.wrap ((k : Int) + 1) = (k : Int) + 1 := by rw [IntKind.wrap_i64]; omega
    obtain ⟨g, c, rfl, hg1, hg2, hlc, hcm, hcs⟩ := HOI.out.some (by intro h; rw [h] at hL; simp at hL)
    have hVr := HBR.out.size
    have cc := keep2 HBR.out hzV ⟨t0, t1⟩
    clear t0 t1
    obtain ⟨t0, t1⟩ := cc
    have hzr : w.heap.size < wr.heap.size := by omega
    by_cases hgo : k < N ∧ k < 3
    · obtain ⟨hg3, hg4⟩ := hgo
      have hg5 : (k : Int) < (N : Int) := by omega
      have hg6 : (k : Int) < 3 := by omega
      clear HIO HBV0
      go_wp2_with (at_builtin; go_loud (refine wpList_ownN rfl (.tmp 68) (.tmp 70) 39 39 rfl 3 i0 _ 8 Try.underlying39 hi0 hz0 hsz0 (by decide) hby0 rfl _ _ _ rfl (HOI.out.own.alloc _) 1 [.int .i64 k] rfl ((int_vl rfl).src Try.underlying39) (by unfold maxLen; omega) (by omega) ?_; rintro v5 w5 ho hg hn; have HO5 := Lib.hid (HOI.out.next hVr ho hn); have HB5 := Lib.hid (own_below HOI.out (Nat.le_refl _) HBR.out hg); clear ho hg hn))
      go_roundw
      case rel => exact ⟨k + 1, by omega, by go_num, L ++ [(k : Int)], by simp [hL], HO5, HB5⟩
      case measure => simp [intOf]; omega
    · have hgl : g < wr.heap.size := hg2
      have HBw : Hid (Below w.heap.size w wr) := Lib.hid (HV.out.trans (HBR.out.mono HV.out.size))
      have hex : (¬ (k : Int) < (N : Int)) ∨ ((k : Int) < (N : Int) ∧ ¬ (k : Int) < 3) := by omega
      have hL4 : L.length ≤ 4 := by omega
      clear HIO HBV0 HOI
      rcases hex with hg5 | ⟨hg5, hg6⟩
      all_goals
        go_wp2_with fail
        generalize wr = wo at *
        go_loopw [74] (fun j wq2 => ∃ i : Nat, i ≤ L.length ∧ j = .int .i64 i ∧ Hid (Below wo.heap.size wo wq2)) (fun j _ => L.length - (intOf j).toNat)
        case atStart => exact ⟨0, by omega, rfl, Lib.hid (Below.refl _ _)⟩
        obtain ⟨i, hi4, rfl, HBq⟩ := hrel
        by_cases hi : i < L.length
        · skip
          obtain ⟨z, hz⟩ : ∃ z, L[i]? = some z := ⟨_, List.getElem?_eq_getElem hi⟩
          have hiI : (i : Int) < (L.length : Int) := by omega
          have hiw : IntKind.i64.wrap ((i : Int) + 1) = (i : Int) + 1 := by rw [IntKind.wrap_i64]; omega
          have hcz := (bcells HBq.out hgl i).trans (hcs i z hz)
          have hsq := HBq.out.size
          have hwq : w.heap.size < wr.heap.size := by omega
          have cc := keep2 HBq.out hzr ⟨t0, t1⟩
          obtain ⟨t0, t1⟩ := cc
          have HBW : Hid (Below w.heap.size w wr) := Lib.hid (HBw.out.trans (HBq.out.mono HBw.out.size))
          have D1 := Lib.hid (fun V' (hb : Below wr.heap.size wr V') => deliver_g (HO.out.below (HBW.out.trans (hb.mono HBW.out.size))) z)
          have D2 := Lib.hid (fun V' (hb : Below wr.heap.size wr V') => rdeliver_g (HO.out.below (HBW.out.trans (hb.mono HBW.out.size))) z)
          have D3 := Lib.hid (fun V' (hb : Below wr.heap.size wr V') => lose_any _ n z V' (HO.out.below (HBW.out.trans (hb.mono HBW.out.size))).nv)
          have D4 := Lib.hid (fun V' (hb : Below wr.heap.size wr V') => rlose_any _ n z V' (HO.out.below (HBW.out.trans (hb.mono HBW.out.size))).nv)
          have D5 := Lib.hid (fun V' (hb : Below wr.heap.size wr V') => repeat_any _ n z V' (HO.out.below (HBW.out.trans (hb.mono HBW.out.size))).nv)
          have D6 := Lib.hid (fun V' (hb : Below wr.heap.size wr V') => rrepeat_any _ n z V' (HO.out.below (HBW.out.trans (hb.mono HBW.out.size))).nv)
          generalize delP n z = P at *
          generalize loseN n z = Y at *
          generalize askE n z = E2 at *
          generalize repN n z = R at *
          generalize repE n z = E3 at *
          have hE2 : (E2 != E2) = false := by simp
          have hE3 : (E3 != E3) = false := by simp
          go_wp2_with fail
          refine (D1.out _ (Below.refl _ _)).mono ?_
          rintro e U1 ⟨q1, N1, k1, a1, M1, l1, p1, L1, c1, rfl, HC1, HP1, hb1⟩
          have hs1 : wr.heap.size ≤ U1.heap.size := hb1.size
          have hbx1 := two_below U1 (.cells #[.int .i64 P.1, .int .i64 P.2.1, .slice p1 L1 c1] 28) (.cells #[.slice q1 N1 k1, .slice a1 M1 l1] 25)
          have hsx1 : ((U1.alloc (.cells #[.int .i64 P.1, .int .i64 P.2.1, .slice p1 L1 c1] 28)).alloc (.cells #[.slice q1 N1 k1, .slice a1 M1 l1] 25)).heap.size = U1.heap.size + 2 := by simp
          have hd := D2.out _ (hb1.trans (hbx1.mono hs1))
          have cc := keep2 hbx1 (by omega) (keep2 hb1 hwq ⟨t0, t1⟩)
          clear t0 t1
          obtain ⟨t0, t1⟩ := cc
          go_wp2_with fail
          refine hd.mono ?_
          clear hd
          rintro e U2 ⟨q2, N2, k2, a2, M2, l2, p2, L2, c2, rfl, HC2, HP2, hb2⟩
          have hs2 : U1.heap.size + 1 < U2.heap.size := by have := hb2.size; rw [hsx1] at this; omega
          have hbx2 := two_below U2 (.cells #[.int .i64 P.1, .int .i64 P.2.1, .slice p2 L2 c2] 28) (.cells #[.slice q2 N2 k2, .slice a2 M2 l2] 25)
          have hsx2 : ((U2.alloc (.cells #[.int .i64 P.1, .int .i64 P.2.1, .slice p2 L2 c2] 28)).alloc (.cells #[.slice q2 N2 k2, .slice a2 M2 l2] 25)).heap.size = U2.heap.size + 2 := by simp
          have cc := keep2 hbx2 (by omega) (keep2 hb2 (by omega) ⟨t0, t1⟩)
          clear t0 t1
          obtain ⟨t0, t1⟩ := cc
          have r20 := Lib.hid ((hbx2.block _ hs2).trans ((hb2.block _ (by rw [hsx1]; omega)).trans (rowB U1 (.cells #[.int .i64 P.1, .int .i64 P.2.1, .slice p1 L1 c1] 28) (.cells #[.slice q1 N1 k1, .slice a1 M1 l1] 25))))
          have r23 := Lib.hid (rowB U2 (.cells #[.int .i64 P.1, .int .i64 P.2.1, .slice p2 L2 c2] 28) (.cells #[.slice q2 N2 k2, .slice a2 M2 l2] 25))
          obtain ⟨x0, x1, x2⟩ := keep3 hbx2 (by omega) (keep3 hb2 (by rw [hsx1]; omega) (keep3 (one_new (U1.alloc (.cells #[.int .i64 P.1, .int .i64 P.2.1, .slice p1 L1 c1] 28)) (.cells #[.slice q1 N1 k1, .slice a1 M1 l1] 25)) (by simp) (new3 U1 (.int .i64 P.1) (.int .i64 P.2.1) (.slice p1 L1 c1) 28)))
          obtain ⟨y0, y1, y2⟩ := keep3 (one_new (U2.alloc (.cells #[.int .i64 P.1, .int .i64 P.2.1, .slice p2 L2 c2] 28)) (.cells #[.slice q2 N2 k2, .slice a2 M2 l2] 25)) (by simp) (new3 U2 (.int .i64 P.1) (.int .i64 P.2.1) (.slice p2 L2 c2) 28)
          have hbs := (hbx1.trans (hb2.mono (by rw [hsx1]; omega))).trans (hbx2.mono (by omega))
          have HPp := Lib.hid (HP1.out.below hbs)
          have HPq := Lib.hid (HP2.out.below hbx2)
          have HCc := Lib.hid (HC1.out.below hbs)
          have HCd := Lib.hid (HC2.out.below hbx2)
          have HBV : Hid (Below wr.heap.size wr ((U2.alloc (.cells #[.int .i64 P.1, .int .i64 P.2.1, .slice p2 L2 c2] 28)).alloc (.cells #[.slice q2 N2 k2, .slice a2 M2 l2] 25))) := Lib.hid (hb1.trans (hbs.mono hs1))
          go_upto_region 19 with fail
          clear hbs hbx1 hbx2 hb1 hb2 HP1 HP2 HC1 HC2 D1 D2
          generalize ((U2.alloc (.cells #[.int .i64 P.1, .int .i64 P.2.1, .slice p2 L2 c2] 28)).alloc (.cells #[.slice q2 N2 k2, .slice a2 M2 l2] 25)) = U3 at *
          obtain ⟨B20, hB20⟩ : ∃ B, B = U1.heap.size + 1 := ⟨_, rfl⟩
          obtain ⟨B23, hB23⟩ : ∃ B, B = U2.heap.size + 1 := ⟨_, rfl⟩
          have hbw1 : w.heap.size < B20 := by omega
          have hbw2 : wr.heap.size ≤ B20 := by omega
          have hbw3 : B20 < B23 := by omega
          have hbw4 : B23 < U3.heap.size := by omega
          have hbw5 : U1.heap.size < U3.heap.size := by omega
          have hbw6 : U2.heap.size < U3.heap.size := by omega
          have hwU : w.heap.size < U3.heap.size := by omega
          rw [← hB20] at r20
          rw [← hB23] at r23
          have KS := samep_any _ _ P P U3 HPp.out HPq.out
          rw [show sameP P P = true by simp [sameP]] at KS
          have KS := Lib.hid KS
          have KC := Lib.hid (fun V' (hb : Below U3.heap.size U3 V') => same_any _ _ Y Y V' (HCc.out.below hb).nv (HCd.out.below hb).nv)
          rw [sameN_self] at KC
          obtain ⟨⟨u0, u1⟩, _⟩ := row2_cells r20.out
          obtain ⟨⟨v0, v1⟩, _⟩ := row2_cells r23.out
          have KK : Hid (∀ V' : World, Below U3.heap.size U3 V' → (V'.cell? ⟨w.heap.size, 0, none⟩ = some (.slice pq N cq) ∧ V'.cell? ⟨w.heap.size, 1, none⟩ = some (.slice pa M ca)) ∧ (V'.cell? ⟨B20, 0, none⟩ = some (.slice q1 N1 k1) ∧ V'.cell? ⟨B20, 1, none⟩ = some (.slice a1 M1 l1)) ∧ (V'.cell? ⟨B23, 0, none⟩ = some (.slice q2 N2 k2) ∧ V'.cell? ⟨B23, 1, none⟩ = some (.slice a2 M2 l2))) :=
            Lib.hid fun V' hb => ⟨keep2 hb hwU ⟨t0, t1⟩, keep2 hb (by omega) ⟨u0, u1⟩, keep2 hb hbw4 ⟨v0, v1⟩⟩
          rw [← hB20, ← hB23]
          clear HPp HPq HCc HCd hsx1 hsx2 hs1 hs2 hbw5 hbw6 hB20 hB23 hsq
          go_wp2_with (first
            | (go_at_call 22; refine KS.out.mono ?_; rintro e U4 ⟨rfl, hb4⟩; have KU4 := Lib.hid hb4; have cc := KK.out _ hb4; clear t0 t1 u0 u1 v0 v1 x0 x1 x2 y0 y1 y2 hb4; obtain ⟨⟨t0, t1⟩, ⟨u0, u1⟩, v0, v1⟩ := cc)
            | (go_at_call 15; refine (KC.out _ KU4.out).mono ?_; rintro e U5 ⟨rfl, hb5⟩; have KU5 := Lib.hid (KU4.out.trans (hb5.mono KU4.out.size)); have cc := KK.out _ KU5.out; clear t0 t1 u0 u1 v0 v1 hb5; obtain ⟨⟨t0, t1⟩, ⟨u0, u1⟩, v0, v1⟩ := cc))
          have hs5 : U3.heap.size ≤ U5.heap.size := KU5.out.size
          have r20 := Lib.hid ((KU5.out.block _ (by omega)).trans r20.out)
          have r23 := Lib.hid ((KU5.out.block _ (by omega)).trans r23.out)
          have HBU5 : Hid (Below wr.heap.size wr U5) := Lib.hid (HBV.out.trans (KU5.out.mono HBV.out.size))
          clear KK KC KS KU4 KU5 HBV u0 u1 v0 v1
          refine (D3.out _ HBU5.out).mono ?_
          rintro e U6 ⟨v6, rfl, hv6, hb6⟩
          obtain ⟨pq6, N6, cq6, pa6, M6, ca6, rfl, _, _, _, _, _⟩ := hv6.op
          have HV6 := Lib.hid hv6
          have hs6 : U5.heap.size ≤ U6.heap.size := hb6.size
          have cc := keep2 hb6 (by omega) ⟨t0, t1⟩
          clear t0 t1
          obtain ⟨t0, t1⟩ := cc
          have r20 := Lib.hid ((hb6.block _ (by omega)).trans r20.out)
          have r23 := Lib.hid ((hb6.block _ (by omega)).trans r23.out)
          have HBU6 : Hid (Below wr.heap.size wr U6) := Lib.hid (HBU5.out.trans (hb6.mono HBU5.out.size))
          clear hv6 hb6
          go_wp2_with (refine nt_store rfl (.tmp 20) (.tmp 111) rfl B20 _ _ _ r20.out rfl rfl rfl ⟨rfl, rfl⟩ ?_; rintro U7 ra hc7; have cc := chg2 hc7 (by omega) (by omega) ⟨t0, t1⟩; clear t0 t1; obtain ⟨t0, t1⟩ := cc)
          have r23 := Lib.hid ((hc7.block B23 (by omega) (by omega)).trans r23.out)
          have r20 := ra
          have hs7 : U6.heap.size ≤ U7.heap.size := hc7.size
          have HV6 := Lib.hid (HV6.out.keep (KeepF.of_chg hc7 (nw_not (by omega) (by omega))))
          have HBU7 : Hid (Below wr.heap.size wr U7) := Lib.hid (Chg.below HBU6.out HBU6.out.size (by omega) hc7)
          clear hc7 HBU5 HBU6
          refine (D4.out _ HBU7.out).mono ?_
          rintro e U8 ⟨v8, rfl, hv8, hb8⟩
          obtain ⟨pq8, N8, cq8, pa8, M8, ca8, rfl, _, _, _, _, _⟩ := hv8.op
          have HV8 := Lib.hid hv8
          have hs8 : U7.heap.size ≤ U8.heap.size := hb8.size
          have cc := keep2 hb8 (by omega) ⟨t0, t1⟩
          clear t0 t1
          obtain ⟨t0, t1⟩ := cc
          have r20 := Lib.hid ((hb8.block _ (by omega)).trans r20.out)
          have r23 := Lib.hid ((hb8.block _ (by omega)).trans r23.out)
          have HV6 := Lib.hid (HV6.out.below hb8)
          have HBU8 : Hid (Below wr.heap.size wr U8) := Lib.hid (HBU7.out.trans (hb8.mono HBU7.out.size))
          clear hv8 hb8
          go_wp2_with (refine nt_store rfl (.tmp 23) (.tmp 117) rfl B23 _ _ _ r23.out rfl rfl rfl ⟨rfl, rfl⟩ ?_; rintro U9 ra hc9; have cc := chg2 hc9 (by omega) (by omega) ⟨t0, t1⟩; clear t0 t1; obtain ⟨t0, t1⟩ := cc; have rb := Lib.hid ((hc9.block B20 (by omega) (by omega)).trans r20.out); obtain ⟨⟨u0, u1⟩, _⟩ := row2_cells rb.out; obtain ⟨⟨v0, v1⟩, _⟩ := row2_cells ra.out)
          have r23 := ra
          have r20 := rb
          have hs9 : U8.heap.size ≤ U9.heap.size := hc9.size
          have HV8 := Lib.hid (HV8.out.keep (KeepF.of_chg hc9 (nw_not (by omega) (by omega))))
          have HV6 := Lib.hid (HV6.out.keep (KeepF.of_chg hc9 (nw_not (by omega) (by omega))))
          have HBU9 : Hid (Below wr.heap.size wr U9) := Lib.hid (Chg.below HBU8.out HBU8.out.size (by omega) hc9)
          clear hc9 HBU7 HBU8
          have hd := same_any _ _ Y Y U9 HV6.out.ev HV8.out.ev
          rw [sameN_self] at hd
          refine hd.mono ?_
          clear hd
          rintro e U10 ⟨rfl, hb10⟩
          have hs10 : U9.heap.size ≤ U10.heap.size := hb10.size
          have cc := keep2 hb10 (by omega) ⟨t0, t1⟩
          clear t0 t1 u0 u1 v0 v1
          obtain ⟨t0, t1⟩ := cc
          have r20 := Lib.hid ((hb10.block _ (by omega)).trans r20.out)
          have r23 := Lib.hid ((hb10.block _ (by omega)).trans r23.out)
          have HBU10 : Hid (Below wr.heap.size wr U10) := Lib.hid (HBU9.out.trans (hb10.mono HBU9.out.size))
          clear hb10 HBU9 HV6 HV8
          go_wp2_with fail
          refine (D5.out _ HBU10.out).mono ?_
          rintro e U11 ⟨v11, rfl, hv11, hb11⟩
          obtain ⟨pq11, N11, cq11, pa11, M11, ca11, rfl, _, _, _, _, _⟩ := hv11.op
          have HV11 := Lib.hid hv11
          have hs11 : U10.heap.size ≤ U11.heap.size := hb11.size
          have cc := keep2 hb11 (by omega) ⟨t0, t1⟩
          clear t0 t1
          obtain ⟨t0, t1⟩ := cc
          have r20 := Lib.hid ((hb11.block _ (by omega)).trans r20.out)
          have r23 := Lib.hid ((hb11.block _ (by omega)).trans r23.out)
          have HBU11 : Hid (Below wr.heap.size wr U11) := Lib.hid (HBU10.out.trans (hb11.mono HBU10.out.size))
          clear hv11 hb11
          go_wp2_with (refine nt_store rfl (.tmp 20) (.tmp 132) rfl B20 _ _ _ r20.out rfl rfl rfl ⟨rfl, rfl⟩ ?_; rintro U12 ra hc12; have cc := chg2 hc12 (by omega) (by omega) ⟨t0, t1⟩; clear t0 t1; obtain ⟨t0, t1⟩ := cc)
          have r23 := Lib.hid ((hc12.block B23 (by omega) (by omega)).trans r23.out)
          have r20 := ra
          have hs12 : U11.heap.size ≤ U12.heap.size := hc12.size
          have HV11 := Lib.hid (HV11.out.keep (KeepF.of_chg hc12 (nw_not (by omega) (by omega))))
          have HBU12 : Hid (Below wr.heap.size wr U12) := Lib.hid (Chg.below HBU11.out HBU11.out.size (by omega) hc12)
          clear hc12 HBU10 HBU11
          refine (D6.out _ HBU12.out).mono ?_
          rintro e U13 ⟨v13, rfl, hv13, hb13⟩
          obtain ⟨pq13, N13, cq13, pa13, M13, ca13, rfl, _, _, _, _, _⟩ := hv13.op
          have HV13 := Lib.hid hv13
          have hs13 : U12.heap.size ≤ U13.heap.size := hb13.size
          have cc := keep2 hb13 (by omega) ⟨t0, t1⟩
          clear t0 t1
          obtain ⟨t0, t1⟩ := cc
          have r20 := Lib.hid ((hb13.block _ (by omega)).trans r20.out)
          have r23 := Lib.hid ((hb13.block _ (by omega)).trans r23.out)
          have HV11 := Lib.hid (HV11.out.below hb13)
          have HBU13 : Hid (Below wr.heap.size wr U13) := Lib.hid (HBU12.out.trans (hb13.mono HBU12.out.size))
          clear hv13 hb13
          go_wp2_with (refine nt_store rfl (.tmp 23) (.tmp 138) rfl B23 _ _ _ r23.out rfl rfl rfl ⟨rfl, rfl⟩ ?_; rintro U14 ra hc14; have cc := chg2 hc14 (by omega) (by omega) ⟨t0, t1⟩; clear t0 t1; obtain ⟨t0, t1⟩ := cc; have rb := Lib.hid ((hc14.block B20 (by omega) (by omega)).trans r20.out); obtain ⟨⟨u0, u1⟩, _⟩ := row2_cells rb.out; obtain ⟨⟨v0, v1⟩, _⟩ := row2_cells ra.out)
          have r23 := ra
          have r20 := rb
          have hs14 : U13.heap.size ≤ U14.heap.size := hc14.size
          have HV13 := Lib.hid (HV13.out.keep (KeepF.of_chg hc14 (nw_not (by omega) (by omega))))
          have HV11 := Lib.hid (HV11.out.keep (KeepF.of_chg hc14 (nw_not (by omega) (by omega))))
          have HBU14 : Hid (Below wr.heap.size wr U14) := Lib.hid (Chg.below HBU13.out HBU13.out.size (by omega) hc14)
          clear hc14 HBU12 HBU13
          have hd := same_any _ _ R R U14 HV11.out.ev HV13.out.ev
          rw [sameN_self] at hd
          refine hd.mono ?_
          clear hd
          rintro e U15 ⟨rfl, hb15⟩
          have hs15 : U14.heap.size ≤ U15.heap.size := hb15.size
          have cc := keep2 hb15 (by omega) ⟨t0, t1⟩
          clear t0 t1 u0 u1 v0 v1
          obtain ⟨t0, t1⟩ := cc
          have r20 := Lib.hid ((hb15.block _ (by omega)).trans r20.out)
          have r23 := Lib.hid ((hb15.block _ (by omega)).trans r23.out)
          have HBU15 : Hid (Below wr.heap.size wr U15) := Lib.hid (HBU14.out.trans (hb15.mono HBU14.out.size))
          clear hb15 HBU14 HV11 HV13
          go_wp2_with fail
          go_roundw
          case rel => exact ⟨i + 1, by omega, by go_num, Lib.hid (HBq.out.trans (HBU15.out.mono HBq.out.size))⟩
          case measure => simp [intOf]; omega

        · have hiE : ¬ ((i : Int) < (L.length : Int)) := by omega
          go_wp2_with fail
          go_ret
          exact ⟨rfl, HBw.out.trans (HBq.out.mono HBw.out.size)⟩
end Go.Proofs.Ytpempgajejbdoaa
