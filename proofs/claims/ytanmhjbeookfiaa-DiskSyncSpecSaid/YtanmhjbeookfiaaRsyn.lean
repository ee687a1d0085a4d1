/-
  Disks: the reference's Sync.
-/
import Derived.Test.YtanmhjbeookfiaaRsyl
namespace Go.Proofs.Ytanmhjbeookfiaa
open Go Go.RowKit
set_option maxRecDepth 100000 in
set_option maxHeartbeats 4000000 in
theorem rsync_yes (v : Value) (d : D) (w : World) (h : DV w v d) (hr : runsB d = true) : Calls Try.prog 24 #[v] w (RetD (syncD d) (syncE d) w) := by
  obtain ⟨ps, N, cs, pp, M, cp, rfl, HO, hs1, hs2, hp1, hp2⟩ := h.op
  clear h
  have HR : Hid (∀ w', Below w.heap.size w w' → Calls Try.prog 16 #[dval d ps N cs pp M cp] w' (Ret (.int .i64 (chk d)) w')) := Lib.hid fun w' hb => rcheck_any _ d w' (HO.out.below hb).dv
  obtain ⟨hv, hst⟩ := runs_of hr
  rw [chk_ok hv] at HR
  obtain ⟨v1, v2, v3, v4, v5, v6, v7⟩ := valid_of hv
  have hN := HO.out.n
  have hM := HO.out.m
  rw [hN] at v1 v2 v5
  rw [hM] at v4
  have HV := Lib.hid (And.intro hr (And.intro hst (And.intro v3 (And.intro v5 (And.intro hN hM)))))
  obtain ⟨us, hu1, hu2, hu3, hu4⟩ := HO.out.sec.vals hN
  obtain ⟨sb, so, rfl, hsb, hu5⟩ := hu2 (by omega)
  have HU := Lib.hid (And.intro hu1 (And.intro hu5 (And.intro hu3 hu4)))
  have HST := Lib.hid hst
  clear hr hv hst v3 v5 hN hM hu1 hu2 hu3 hu4 hu5
  have hcase : ∃ m : Nat, m ≤ M ∧ ((0 ≤ d.left ∧ d.left < M ∧ d.left = m ∧ m < M) ∨ (0 ≤ d.left ∧ ¬ d.left < (M : Int) ∧ m = M) ∨ (¬ 0 ≤ d.left ∧ d.left = -1 ∧ m = M)) := by
    by_cases h0 : 0 ≤ d.left
    · by_cases h1 : d.left < M
      · exact ⟨d.left.toNat, by omega, .inl ⟨h0, h1, by omega, by omega⟩⟩
      · exact ⟨M, by omega, .inr (.inl ⟨h0, h1, rfl⟩)⟩
    · exact ⟨M, by omega, .inr (.inr ⟨h0, by omega, rfl⟩)⟩
  obtain ⟨m, hmM, hcase⟩ := hcase
  go_enter Try.func24, Try.ntmps24
  go_wp2_with fail
  refine (HR.out _ (two_below _ _ _)).mono ?_
  rintro e w1 ⟨rfl, hb1⟩
  obtain ⟨⟨c0, c1, c2, c3⟩, r, f, hz1⟩ := boxedR (by simp) hb1
  have HB := Lib.hid (two_later hb1)
  have q := HST.out
  have hzw : w.heap.size < w1.heap.size := by omega
  clear hb1
  rcases hcase with ⟨h0, h1, h2, h3⟩ | ⟨h0, h1, rfl⟩ | ⟨h0, h1, rfl⟩
  · go_upto_region 7 with fail
    go_cut [6] from 32 to 38 (fun s6 wc => ∃ xb G cap : Nat, s6 = .pointer (some ⟨xb, 0, none⟩) ∧ N ≤ cap ∧ cap ≤ 9223372036854775807 ∧ w1.heap.size ≤ xb ∧ w1.heap.size ≤ G ∧ xb ≠ G ∧ Hid (wc.heap[xb]? = some (.cells #[.slice (some ⟨G, 0, none⟩) N cap, .slice none 0 0, .int .i64 d.left, .bool false] 25 (0, 0))) ∧ Hid (OS wc G d.s) ∧ Hid (Below w1.heap.size w1 wc))
    case first =>
      refine wp_region_held_drew (S := fun w' => Below w1.heap.size w1 w') (by kernel_rfl) (drew_below (Below.refl _ _)) (fun hHeld => ?_)
      have B0 := Lib.hid hHeld
      refine take_at (i := 1) (k := 33) (v := .pointer (some ⟨w.heap.size, 0, none⟩)) rfl rfl (by kernel_rfl) (by kernel_rfl) (by kernel_rfl) (fun _ _ _ h => h) (Or.inl ⟨by rfl, fun w _ => by go_simp⟩) hHeld ?_
      try simp only [Act.put, List.setIfInBounds_toArray, List.set_cons_zero, List.set_cons_succ]
      refine take_at (i := 2) (k := 34) (v := .slice (some ⟨sb, so, none⟩) N cs) rfl rfl (by kernel_rfl) (by kernel_rfl) (by kernel_rfl) (fun _ _ _ h => h) (Or.inl ⟨by rfl, fun w' h => by have e := (bcells h hzw 0).trans c0; go_simp⟩) hHeld ?_
      try simp only [Act.put, List.setIfInBounds_toArray, List.set_cons_zero, List.set_cons_succ]
      refine take_at (i := 4) (k := 36) (v := .pointer (some ⟨w.heap.size, 2, none⟩)) rfl rfl (by kernel_rfl) (by kernel_rfl) (by kernel_rfl) (fun _ _ _ h => h) (Or.inl ⟨by rfl, fun w _ => by go_simp⟩) hHeld ?_
      try simp only [Act.put, List.setIfInBounds_toArray, List.set_cons_zero, List.set_cons_succ]
      refine take_at (i := 5) (k := 37) (v := .int .i64 d.left) rfl rfl (by kernel_rfl) (by kernel_rfl) (by kernel_rfl) (fun _ _ _ h => h) (Or.inl ⟨by rfl, fun w' h => by have e := (bcells h hzw 2).trans c2; go_simp⟩) hHeld ?_
      try simp only [Act.put, List.setIfInBounds_toArray, List.set_cons_zero, List.set_cons_succ]
      clear hHeld
      refine wpAnyH_ready (rs := [0, 7]) (by kernel_rfl) (by simp) ?_
      refine AllReadyH.cons rfl (fun K hK => ?_) (AllReadyH.cons rfl (fun K hK => ?_) AllReadyH.nil)
      · rw [if_pos (by rfl)]
        refine wp_bs22 rfl rfl ?_
        intro U1 g huU1 hg1 hg2 hGU1
        have B1 := Lib.hid (B0.out.trans (huU1.mono B0.out.size))
        have hgw : w1.heap.size ≤ g := Nat.le_trans B0.out.size hg1
        refine hK.out _ _ B1.out (fun hHeld => ?_)
        try simp only [Act.put, List.setIfInBounds_toArray, List.set_cons_zero, List.set_cons_succ]
        clear hK K
        clear hHeld
        refine wpAnyH_ready (rs := [3, 7]) (by kernel_rfl) (by simp) ?_
        refine AllReadyH.cons rfl (fun K hK => ?_) (AllReadyH.cons rfl (fun K hK => ?_) AllReadyH.nil)
        · rw [if_pos (by rfl)]
          refine wp_hdrs rfl (.tmp 32) (.tmp 34) rfl g _ hGU1.out rfl rfl us N HU.out.1 v1 v2 (src_us HU.out.1 HU.out.2.1 HU.out.2.2.2 (HB.out.trans (B1.out.mono HB.out.size)) hsb) ?_
          intro U2 G cap hk1 hk2 hGg hO hgr
          have B2 : Hid (Below w1.heap.size w1 U2) := Lib.hid (grown_below hgr B1.out hgw B1.out.size)
          have hGw : w1.heap.size ≤ G := by rcases hGg with rfl | h; exact hgw; exact Nat.le_trans B1.out.size h
          refine hK.out _ _ B2.out (fun hHeld => ?_)
          try simp only [Act.put, List.setIfInBounds_toArray, List.set_cons_zero, List.set_cons_succ]
          clear hK K
          refine take_at (i := 6) (k := 38) (v := .agg #[.slice (some ⟨G, 0, none⟩) N cap, .slice none 0 0, .int .i64 d.left, .bool false]) rfl rfl (by kernel_rfl) (by kernel_rfl) (by kernel_rfl) (fun _ _ _ h => h) (Or.inl ⟨by rfl, fun w _ => by go_simp⟩) hHeld ?_
          try simp only [Act.put, List.setIfInBounds_toArray, List.set_cons_zero, List.set_cons_succ]
          clear hHeld
          refine wpAnyH_ready (rs := [7]) (by kernel_rfl) (by simp) ?_
          refine AllReadyH.cons rfl (fun K hK => ?_) AllReadyH.nil
          rw [if_pos (by rfl)]
          refine wp_al25 rfl rfl ?_
          intro U3 xb huU3 hx1 hx2 hXU3
          have B3 := Lib.hid (B2.out.trans (huU3.mono B2.out.size))
          have hxw : w1.heap.size ≤ xb := Nat.le_trans B2.out.size hx1
          have hne : xb ≠ G := by have := hO.lt; omega
          have hO3 := hO.keep huU3.size (huU3.block G hO.lt)
          refine hK.out _ _ B3.out (fun hHeld => ?_)
          try simp only [Act.put, List.setIfInBounds_toArray, List.set_cons_zero, List.set_cons_succ]
          clear hK K
          clear hHeld
          refine wpAnyH_ready (rs := [8]) (by kernel_rfl) (by simp) ?_
          refine AllReadyH.cons rfl (fun K hK => ?_) AllReadyH.nil
          rw [if_pos (by rfl)]
          refine wp_st25 (.tmp 6) (.tmp 38) rfl rfl xb _ _ _ _ _ rfl rfl hXU3.out rfl ⟨rfl, rfl, rfl, rfl⟩ ?_
          intro U4 hXU4 hch
          have B4 : Hid (Below w1.heap.size w1 U4) := Lib.hid (Chg.below B3.out B3.out.size hxw hch)
          have hO4 := hO3.keep hch.size (hch.block G hO3.lt (fun e => hne e.symm))
          refine hK.out _ _ B4.out (fun hHeld => ?_)
          try simp only [Act.put, List.setIfInBounds_toArray, List.set_cons_zero, List.set_cons_succ]
          clear hK K
          clear hHeld
          refine wpAnyH_done (by kernel_rfl) ?_ _
          have hw1 := HB.out.size
          go_wp2_with fail
          go_meet
          case rel => exact ⟨xb, G, cap, rfl, hk1, hk2, hxw, hGw, hne, hXU4, Lib.hid (os_of_own hO4 (Nat.le_trans hw1 hGw) (HB.out.trans (B4.out.mono HB.out.size)) HU.out.2.2.1), B4⟩
        · rw [if_pos (by rfl)]
          refine wp_al25 rfl rfl ?_
          intro U2 xb huU2 hx1 hx2 hXU2
          have B2 := Lib.hid (B1.out.trans (huU2.mono B1.out.size))
          have hxw : w1.heap.size ≤ xb := Nat.le_trans B1.out.size hx1
          have hxg : xb ≠ g := by omega
          have hG2 := (huU2.block g hg2).trans hGU1.out
          refine hK.out _ _ B2.out (fun hHeld => ?_)
          try simp only [Act.put, List.setIfInBounds_toArray, List.set_cons_zero, List.set_cons_succ]
          clear hK K
          clear hHeld
          refine wpAnyH_ready (rs := [3]) (by kernel_rfl) (by simp) ?_
          refine AllReadyH.cons rfl (fun K hK => ?_) AllReadyH.nil
          rw [if_pos (by rfl)]
          refine wp_hdrs rfl (.tmp 32) (.tmp 34) rfl g _ hG2 rfl rfl us N HU.out.1 v1 v2 (src_us HU.out.1 HU.out.2.1 HU.out.2.2.2 (HB.out.trans (B2.out.mono HB.out.size)) hsb) ?_
          intro U3 G cap hk1 hk2 hGg hO hgr
          have B3 : Hid (Below w1.heap.size w1 U3) := Lib.hid (grown_below hgr B2.out hgw B2.out.size)
          have hGw : w1.heap.size ≤ G := by rcases hGg with rfl | h; exact hgw; exact Nat.le_trans B2.out.size h
          have hne : xb ≠ G := by rcases hGg with rfl | h; exact hxg; omega
          have hX3 := grown_row hgr hx2 hxg hXU2.out
          refine hK.out _ _ B3.out (fun hHeld => ?_)
          try simp only [Act.put, List.setIfInBounds_toArray, List.set_cons_zero, List.set_cons_succ]
          clear hK K
          refine take_at (i := 6) (k := 38) (v := .agg #[.slice (some ⟨G, 0, none⟩) N cap, .slice none 0 0, .int .i64 d.left, .bool false]) rfl rfl (by kernel_rfl) (by kernel_rfl) (by kernel_rfl) (fun _ _ _ h => h) (Or.inl ⟨by rfl, fun w _ => by go_simp⟩) hHeld ?_
          try simp only [Act.put, List.setIfInBounds_toArray, List.set_cons_zero, List.set_cons_succ]
          clear hHeld
          refine wpAnyH_ready (rs := [8]) (by kernel_rfl) (by simp) ?_
          refine AllReadyH.cons rfl (fun K hK => ?_) AllReadyH.nil
          rw [if_pos (by rfl)]
          refine wp_st25 (.tmp 6) (.tmp 38) rfl rfl xb _ _ _ _ _ rfl rfl hX3 rfl ⟨rfl, rfl, rfl, rfl⟩ ?_
          intro U4 hXU4 hch
          have B4 : Hid (Below w1.heap.size w1 U4) := Lib.hid (Chg.below B3.out B3.out.size hxw hch)
          have hO4 := hO.keep hch.size (hch.block G hO.lt (fun e => hne e.symm))
          refine hK.out _ _ B4.out (fun hHeld => ?_)
          try simp only [Act.put, List.setIfInBounds_toArray, List.set_cons_zero, List.set_cons_succ]
          clear hK K
          clear hHeld
          refine wpAnyH_done (by kernel_rfl) ?_ _
          have hw1 := HB.out.size
          go_wp2_with fail
          go_meet
          case rel => exact ⟨xb, G, cap, rfl, hk1, hk2, hxw, hGw, hne, hXU4, Lib.hid (os_of_own hO4 (Nat.le_trans hw1 hGw) (HB.out.trans (B4.out.mono HB.out.size)) HU.out.2.2.1), B4⟩
      · rw [if_pos (by rfl)]
        refine wp_al25 rfl rfl ?_
        intro U1 xb huU1 hx1 hx2 hXU1
        have B1 := Lib.hid (B0.out.trans (huU1.mono B0.out.size))
        have hxw : w1.heap.size ≤ xb := Nat.le_trans B0.out.size hx1
        refine hK.out _ _ B1.out (fun hHeld => ?_)
        try simp only [Act.put, List.setIfInBounds_toArray, List.set_cons_zero, List.set_cons_succ]
        clear hK K
        clear hHeld
        refine wpAnyH_ready (rs := [0]) (by kernel_rfl) (by simp) ?_
        refine AllReadyH.cons rfl (fun K hK => ?_) AllReadyH.nil
        rw [if_pos (by rfl)]
        refine wp_bs22 rfl rfl ?_
        intro U2 g huU2 hg1 hg2 hGU2
        have B2 := Lib.hid (B1.out.trans (huU2.mono B1.out.size))
        have hgw : w1.heap.size ≤ g := Nat.le_trans B1.out.size hg1
        have hxg : xb ≠ g := by omega
        have hX2 := (huU2.block xb hx2).trans hXU1.out
        have hxl : xb < U2.heap.size := Nat.lt_of_lt_of_le hx2 huU2.size
        refine hK.out _ _ B2.out (fun hHeld => ?_)
        try simp only [Act.put, List.setIfInBounds_toArray, List.set_cons_zero, List.set_cons_succ]
        clear hK K
        clear hHeld
        refine wpAnyH_ready (rs := [3]) (by kernel_rfl) (by simp) ?_
        refine AllReadyH.cons rfl (fun K hK => ?_) AllReadyH.nil
        rw [if_pos (by rfl)]
        refine wp_hdrs rfl (.tmp 32) (.tmp 34) rfl g _ hGU2.out rfl rfl us N HU.out.1 v1 v2 (src_us HU.out.1 HU.out.2.1 HU.out.2.2.2 (HB.out.trans (B2.out.mono HB.out.size)) hsb) ?_
        intro U3 G cap hk1 hk2 hGg hO hgr
        have B3 : Hid (Below w1.heap.size w1 U3) := Lib.hid (grown_below hgr B2.out hgw B2.out.size)
        have hGw : w1.heap.size ≤ G := by rcases hGg with rfl | h; exact hgw; exact Nat.le_trans B2.out.size h
        have hne : xb ≠ G := by rcases hGg with rfl | h; exact hxg; omega
        have hX3 := grown_row hgr hxl hxg hX2
        refine hK.out _ _ B3.out (fun hHeld => ?_)
        try simp only [Act.put, List.setIfInBounds_toArray, List.set_cons_zero, List.set_cons_succ]
        clear hK K
        refine take_at (i := 6) (k := 38) (v := .agg #[.slice (some ⟨G, 0, none⟩) N cap, .slice none 0 0, .int .i64 d.left, .bool false]) rfl rfl (by kernel_rfl) (by kernel_rfl) (by kernel_rfl) (fun _ _ _ h => h) (Or.inl ⟨by rfl, fun w _ => by go_simp⟩) hHeld ?_
        try simp only [Act.put, List.setIfInBounds_toArray, List.set_cons_zero, List.set_cons_succ]
        clear hHeld
        refine wpAnyH_ready (rs := [8]) (by kernel_rfl) (by simp) ?_
        refine AllReadyH.cons rfl (fun K hK => ?_) AllReadyH.nil
        rw [if_pos (by rfl)]
        refine wp_st25 (.tmp 6) (.tmp 38) rfl rfl xb _ _ _ _ _ rfl rfl hX3 rfl ⟨rfl, rfl, rfl, rfl⟩ ?_
        intro U4 hXU4 hch
        have B4 : Hid (Below w1.heap.size w1 U4) := Lib.hid (Chg.below B3.out B3.out.size hxw hch)
        have hO4 := hO.keep hch.size (hch.block G hO.lt (fun e => hne e.symm))
        refine hK.out _ _ B4.out (fun hHeld => ?_)
        try simp only [Act.put, List.setIfInBounds_toArray, List.set_cons_zero, List.set_cons_succ]
        clear hK K
        clear hHeld
        refine wpAnyH_done (by kernel_rfl) ?_ _
        have hw1 := HB.out.size
        go_wp2_with fail
        go_meet
        case rel => exact ⟨xb, G, cap, rfl, hk1, hk2, hxw, hGw, hne, hXU4, Lib.hid (os_of_own hO4 (Nat.le_trans hw1 hGw) (HB.out.trans (B4.out.mono HB.out.size)) HU.out.2.2.1), B4⟩
    case rest =>
      obtain ⟨xb, G, cap, rfl, hk1, hk2, hxw, hGw, hne, HX, HOS, HBc⟩ := hcut
      go_wp2_with fail
      go_loopw [7] (fun x wr => ∃ i : Nat, i ≤ m ∧ x = .int .i64 i ∧ Hid (wr.heap[xb]? = some (.cells #[.slice (some ⟨G, 0, none⟩) N cap, .slice none 0 0, .int .i64 d.left, .bool false] 25 (0, 0))) ∧ Hid (OS wr G (perfR d.s (d.p.take i))) ∧ Hid (Below w1.heap.size w1 wr)) (fun x _ => m - (intOf x).toNat)
      case atStart => exact ⟨0, Nat.zero_le _, rfl, HX, HOS, HBc⟩
      case round =>
        clear HX HOS HBc
        obtain ⟨i, hi, rfl, HX, HOS, HB1⟩ := hrel
        have hw1 := HB.out.size
        have hzr := HB1.out.size
        have p1 := (bcells HB1.out hzw 1).trans c1
        by_cases hlt : i < m
        · obtain ⟨b, o, n, pu, L, cu, l, rfl, hb, q0, q1, HL, hL1, hL2, hL3⟩ := HO.out.penAt i (by omega)
          have hpn := penB_of (List.all_eq_true.1 HV.out.2.2.2.1 (n, l) (List.mem_of_getElem? HL.out.1))
          simp only at hpn
          obtain ⟨k, rfl⟩ : ∃ k : Nat, n = (k : Int) := ⟨n.toNat, by omega⟩
          have hkN : k < N := by omega
          have hkNi : (k : Int) < (N : Int) := by omega
          have hlti : (i : Int) < (m : Int) := by omega
          have hHBr := Lib.hid (HB.out.trans (HB1.out.mono HB.out.size))
          have q0r := (bcells hHBr.out hb _).trans q0
          have q1r := (bcells hHBr.out hb _).trans q1
          have hlen : (perfR d.s (d.p.take i)).length = N := by
            rw [(perf_eq (d.p.take i) d.s HV.out.2.2.1 (List.all_eq_true.2 fun y hy => List.all_eq_true.1 (by have := HV.out.2.2.2.1; rwa [← HV.out.2.2.2.2.1] at this) y (List.mem_of_mem_take hy))).2.2]
            exact HV.out.2.2.2.2.1
          obtain ⟨u0, g0, _⟩ := HOS.out.at' k ((perfR d.s (d.p.take i))[k]'(by omega)) (List.getElem?_eq_getElem (by omega))
          have gf := HOS.out.free k
          obtain ⟨⟨x0, x1, x2, x3⟩, hxlt, _⟩ := row4 HX.out
          have hGl := HOS.out.lt
          have HOS2 : Hid (OS (wr.setCell ⟨G, k, none⟩ (.slice pu L cu)) G (perfR d.s (d.p.take (i + 1)))) := Lib.hid (by
            rw [perfR_succ d i HL.out.1, Int.toNat_natCast]
            refine HOS.out.set k _ l (by omega) (BVx.of_new HL.out.2.2 (Nat.le_trans hw1 hGw) |>.below hHBr.out))
          have HX2 : Hid ((wr.setCell ⟨G, k, none⟩ (.slice pu L cu)).heap[xb]? = some (.cells #[.slice (some ⟨G, 0, none⟩) N cap, .slice none 0 0, .int .i64 d.left, .bool false] 25 (0, 0))) := Lib.hid (row_set HX.out (fun e => hne e.symm))
          have HB2 : Hid (Below w1.heap.size w1 (wr.setCell ⟨G, k, none⟩ (.slice pu L cu))) := Lib.hid (below_set HB1.out hGw _)
          have n1 : G ≠ w.heap.size := by omega
          have n2 : G ≠ xb := fun e => hne e.symm
          have n3 : G ≠ b := by omega
          have hiM : (i : Int) < (M : Int) := by omega
          clear q0 q1 x1 x2 x3
          go_wp2_with fail
          go_region_held3 (fun w' => w'.cell? ⟨xb, 0, none⟩ = some (.slice (some ⟨G, 0, none⟩) N cap) ∧ w'.cell? ⟨w.heap.size, 1, none⟩ = some (.slice (some ⟨b, o, none⟩) M cp) ∧ w'.cell? ⟨b, o + i * 2, none⟩ = some (.int .i64 (k : Int)) ∧ w'.cell? ⟨b, o + i * 2 + 1, none⟩ = some (.slice pu L cu)) (go_keep) (fail)
          clear x0 q0r q1r g0 gf p1
          go_wp2_with fail
          go_roundw
          case rel => exact ⟨i + 1, by omega, by go_num, HX2, Lib.hid (HOS2.out.below (drew_below (Below.refl _ _))), Lib.hid (drew_below HB2.out)⟩
          case measure => simp [intOf]; omega
        · obtain rfl : i = m := by omega
          obtain ⟨b, o, n, pu, L, cu, l, rfl, hb, q0, q1, HL, hL1, hL2, hL3⟩ := HO.out.penAt i h3
          have hpn := penB_of (List.all_eq_true.1 HV.out.2.2.2.1 (n, l) (List.mem_of_getElem? HL.out.1))
          simp only at hpn
          obtain ⟨k, rfl⟩ : ∃ k : Nat, n = (k : Int) := ⟨n.toNat, by omega⟩
          have hkN : k < N := by omega
          have hkNi : (k : Int) < (N : Int) := by omega
          have hiM : (i : Int) < (M : Int) := by omega
          have hHBr := Lib.hid (HB.out.trans (HB1.out.mono HB.out.size))
          have q0r := (bcells hHBr.out hb _).trans q0
          have q1r := (bcells hHBr.out hb _).trans q1
          obtain rfl : L = 128 := by have := HL.out.2.1; omega
          obtain ⟨bu, ou, rfl, hbu, hll, hcu, hcu2⟩ := HL.out.2.2.some_of (by omega)
          have HLB := Lib.hid HL.out.2.2
          have HLI := Lib.hid HL.out.1
          clear q0 q1 HL
          go_upto_region 14 with fail
          obtain ⟨wq, hwq⟩ : ∃ wq, wq = wr.alloc (.cells #[.int .i64 (k : Int), .slice (some ⟨bu, ou, none⟩) 128 cu] 54) := ⟨_, rfl⟩
          have HBq : Hid (Below wr.heap.size wr wq) := Lib.hid (by rw [hwq]; exact one_new _ _)
          have w0 : wq.cell? ⟨wr.heap.size, 0, none⟩ = some (.int .i64 (k : Int)) := by rw [hwq]; go_simp
          have w1c : wq.cell? ⟨wr.heap.size, 1, none⟩ = some (.slice (some ⟨bu, ou, none⟩) 128 cu) := by rw [hwq]; go_simp
          have hzq : wr.heap.size < wq.heap.size := by rw [hwq]; simp
          rw [← hwq]
          have hlen : (perfR d.s (d.p.take i)).length = N := by
            rw [(perf_eq (d.p.take i) d.s HV.out.2.2.1 (List.all_eq_true.2 fun y hy => List.all_eq_true.1 (by have := HV.out.2.2.2.1; rwa [← HV.out.2.2.2.2.1] at this) y (List.mem_of_mem_take hy))).2.2]
            exact HV.out.2.2.2.2.1
          have hsec : ((perfR d.s (d.p.take i)).getD k []).length = 128 := by
            refine getD_sec ?_ (by omega)
            exact (perf_eq (d.p.take i) d.s HV.out.2.2.1 (List.all_eq_true.2 fun y hy => List.all_eq_true.1 (by have := HV.out.2.2.2.1; rwa [← HV.out.2.2.2.2.1] at this) y (List.mem_of_mem_take hy))).2.1
          obtain ⟨mm, hmm⟩ : ∃ mm, (perfR d.s (d.p.take i)).getD k [] = mm := ⟨_, rfl⟩
          have hmm2 : (perfR d.s (d.p.take i))[k]? = some mm := by rw [← hmm, List.getD_eq_getElem?_getD, List.getElem?_eq_getElem (by omega)]; rfl
          rw [hmm] at hsec
          obtain ⟨u0, g0, hu0⟩ := HOS.out.at' k mm hmm2
          have hu0b := hu0.bv
          obtain ⟨pz, cz, rfl, _, _⟩ := hu0b.shape
          rw [hsec] at g0 hu0 hu0b
          obtain ⟨b0, o0, rfl, hb0, _, hcz, hcz2⟩ := hu0b.some_of (by omega)
          have HU0 := Lib.hid (hu0b.below HBq.out)
          have hGl := HOS.out.lt
          have g0q : wq.cell? ⟨G, k, none⟩ = some (.slice (some ⟨b0, o0, none⟩) 128 cz) := (bcells HBq.out hGl k).trans g0
          obtain ⟨⟨x0, x1, x2, x3⟩, hxlt, _⟩ := row4 ((HBq.out.block _ (row4 HX.out).2.1).trans HX.out)
          have HOSq := Lib.hid (HOS.out.below HBq.out)
          have HXq : Hid (wq.heap[xb]? = _) := Lib.hid ((HBq.out.block _ (row4 HX.out).2.1).trans HX.out)
          have HB1q := Lib.hid (HB1.out.trans (HBq.out.mono HB1.out.size))
          have hxq : xb < wq.heap.size := hxlt
          have hGq : G < wq.heap.size := by omega
          have HLBq := Lib.hid (HLB.out.below (hHBr.out.trans (HBq.out.mono hHBr.out.size)))
          have hTORN : Hid (torn (perfR d.s (d.p.take i)) ((k : Int), l) = (perfR d.s (d.p.take i)).set k (l.take 64 ++ mm.drop 64)) := Lib.hid (by unfold torn; rw [Int.toNat_natCast, hmm])
          have i1 : ¬ (cu : Int) < 64 := by omega
          have i2 : ¬ cu = 0 := by omega
          have i3 : ¬ (cz : Int) < 128 := by omega
          have i4 : ¬ cz = 64 := by omega
          have i5 : ¬ (cz : Int) < 64 := by omega
          clear x1 x2 x3 hmm hmm2 hu0 hu0b g0 hwq hpn q0r q1r
          go_cut [3] from 65 to 82 (fun s3 wc2 => s3 = .int .i64 0 ∧ Hid (wc2.heap[xb]? = some (.cells #[.slice (some ⟨G, 0, none⟩) N cap, .slice none 0 0, .int .i64 d.left, .bool false] 25 (0, 0))) ∧ Hid (OS wc2 G (torn (perfR d.s (d.p.take i)) ((k : Int), l))) ∧ Hid (Below w1.heap.size w1 wc2))
          case first =>
            refine wp_region_held_drew (S := fun w' => Chg G wq w') (by kernel_rfl) (Chg.of_below (drew_below (Below.refl _ _))) (fun hHeld => ?_)
            have nx : xb ≠ G := hne
            have nq : wr.heap.size ≠ G := by omega
            refine take_at (i := 0) (k := 65) (v := .pointer (some ⟨xb, 0, none⟩)) rfl rfl (by kernel_rfl) (by kernel_rfl) (by kernel_rfl) (fun _ _ _ h => h) (Or.inl ⟨by rfl, fun w _ => by go_simp⟩) hHeld ?_
            try simp only [Act.put, List.setIfInBounds_toArray, List.set_cons_zero, List.set_cons_succ]
            refine take_at (i := 1) (k := 66) (v := .slice (some ⟨G, 0, none⟩) N cap) rfl rfl (by kernel_rfl) (by kernel_rfl) (by kernel_rfl) (fun _ _ _ h => h) (Or.inl ⟨by rfl, fun w' h => by have e := (Chg.cell h hxq nx).trans x0; go_simp⟩) hHeld ?_
            try simp only [Act.put, List.setIfInBounds_toArray, List.set_cons_zero, List.set_cons_succ]
            refine take_at (i := 2) (k := 67) (v := .pointer (some ⟨wr.heap.size, 0, none⟩)) rfl rfl (by kernel_rfl) (by kernel_rfl) (by kernel_rfl) (fun _ _ _ h => h) (Or.inl ⟨by rfl, fun w _ => by go_simp⟩) hHeld ?_
            try simp only [Act.put, List.setIfInBounds_toArray, List.set_cons_zero, List.set_cons_succ]
            refine take_at (i := 3) (k := 68) (v := .int .i64 (k : Int)) rfl rfl (by kernel_rfl) (by kernel_rfl) (by kernel_rfl) (fun _ _ _ h => h) (Or.inl ⟨by rfl, fun w' h => by have e := (Chg.cell h hzq nq).trans w0; go_simp⟩) hHeld ?_
            try simp only [Act.put, List.setIfInBounds_toArray, List.set_cons_zero, List.set_cons_succ]
            refine take_at (i := 5) (k := 70) (v := .pointer (some ⟨wr.heap.size, 1, none⟩)) rfl rfl (by kernel_rfl) (by kernel_rfl) (by kernel_rfl) (fun _ _ _ h => h) (Or.inl ⟨by rfl, fun w _ => by go_simp⟩) hHeld ?_
            try simp only [Act.put, List.setIfInBounds_toArray, List.set_cons_zero, List.set_cons_succ]
            refine take_at (i := 6) (k := 71) (v := .slice (some ⟨bu, ou, none⟩) 128 cu) rfl rfl (by kernel_rfl) (by kernel_rfl) (by kernel_rfl) (fun _ _ _ h => h) (Or.inl ⟨by rfl, fun w' h => by have e := (Chg.cell h hzq nq).trans w1c; go_simp⟩) hHeld ?_
            try simp only [Act.put, List.setIfInBounds_toArray, List.set_cons_zero, List.set_cons_succ]
            refine take_at (i := 7) (k := 72) (v := .slice (some ⟨bu, ou, none⟩) 64 cu) rfl rfl (by kernel_rfl) (by kernel_rfl) (by kernel_rfl) (fun _ _ _ h => h) (Or.inl ⟨by rfl, fun w _ => by go_simp⟩) hHeld ?_
            try simp only [Act.put, List.setIfInBounds_toArray, List.set_cons_zero, List.set_cons_succ]
            refine take_at (i := 9) (k := 74) (v := .pointer (some ⟨xb, 0, none⟩)) rfl rfl (by kernel_rfl) (by kernel_rfl) (by kernel_rfl) (fun _ _ _ h => h) (Or.inl ⟨by rfl, fun w _ => by go_simp⟩) hHeld ?_
            try simp only [Act.put, List.setIfInBounds_toArray, List.set_cons_zero, List.set_cons_succ]
            refine take_at (i := 10) (k := 75) (v := .slice (some ⟨G, 0, none⟩) N cap) rfl rfl (by kernel_rfl) (by kernel_rfl) (by kernel_rfl) (fun _ _ _ h => h) (Or.inl ⟨by rfl, fun w' h => by have e := (Chg.cell h hxq nx).trans x0; go_simp⟩) hHeld ?_
            try simp only [Act.put, List.setIfInBounds_toArray, List.set_cons_zero, List.set_cons_succ]
            refine take_at (i := 11) (k := 76) (v := .pointer (some ⟨wr.heap.size, 0, none⟩)) rfl rfl (by kernel_rfl) (by kernel_rfl) (by kernel_rfl) (fun _ _ _ h => h) (Or.inl ⟨by rfl, fun w _ => by go_simp⟩) hHeld ?_
            try simp only [Act.put, List.setIfInBounds_toArray, List.set_cons_zero, List.set_cons_succ]
            refine take_at (i := 12) (k := 77) (v := .int .i64 (k : Int)) rfl rfl (by kernel_rfl) (by kernel_rfl) (by kernel_rfl) (fun _ _ _ h => h) (Or.inl ⟨by rfl, fun w' h => by have e := (Chg.cell h hzq nq).trans w0; go_simp⟩) hHeld ?_
            try simp only [Act.put, List.setIfInBounds_toArray, List.set_cons_zero, List.set_cons_succ]
            refine take_at (i := 13) (k := 78) (v := .pointer (some ⟨G, k, none⟩)) rfl rfl (by kernel_rfl) (by kernel_rfl) (by kernel_rfl) (fun _ _ _ h => h) (Or.inl ⟨by rfl, fun w _ => by go_simp⟩) hHeld ?_
            try simp only [Act.put, List.setIfInBounds_toArray, List.set_cons_zero, List.set_cons_succ]
            have Z0 : Hid (Below wq.heap.size wq wq.drew) := Lib.hid (drew_below (Below.refl _ _))
            clear hHeld
            refine wpAnyH_ready (rs := [4, 14]) (by kernel_rfl) (by simp) ?_
            refine AllReadyH.cons rfl (fun K hK => ?_) (AllReadyH.cons rfl (fun K hK => ?_) AllReadyH.nil)
            · rw [if_pos (by rfl)]
              refine wp_bs35 rfl rfl ?_
              intro U1 g hu1 hgg hO1
              have C1 : Hid (Below wq.heap.size wq U1) := Lib.hid (Z0.out.trans (hu1.mono Z0.out.size))
              have hgq : wq.heap.size ≤ g := Nat.le_trans Z0.out.size hgg
              have ob1 : ∀ j, (Value.slice (some ⟨g, 0, none⟩) 0 0).ownBlock = some j → wq.heap.size ≤ j := fun j e => by cases e; exact hgq
              refine hK.out _ _ (Chg.of_below C1.out) (fun hHeld => ?_)
              try simp only [Act.put, List.setIfInBounds_toArray, List.set_cons_zero, List.set_cons_succ]
              clear hK K
              clear hHeld
              refine wpAnyH_ready (rs := [8, 14]) (by kernel_rfl) (by simp) ?_
              refine AllReadyH.cons rfl (fun K hK => ?_) (AllReadyH.cons rfl (fun K hK => ?_) AllReadyH.nil)
              · rw [if_pos (by rfl)]
                refine wp_bytes rfl (.tmp 69) (.tmp 72) rfl _ (.slice (some ⟨bu, ou, none⟩) 64 cu) [] (l.take 64) rfl hO1 rfl ((HLBq.out.below C1.out).first (m := 64) (by omega)) (by simp; omega) ?_
                intro v2 U2 hO2 hgr2 hbk2
                have ob2 := own_from ob1 C1.out.size hbk2
                have C2 : Hid (Below wq.heap.size wq U2) := Lib.hid (grown_bel C1.out C1.out.size hgr2 (fun j e => ob1 j e))
                rw [List.nil_append] at hO2
                refine hK.out _ _ (Chg.of_below C2.out) (fun hHeld => ?_)
                try simp only [Act.put, List.setIfInBounds_toArray, List.set_cons_zero, List.set_cons_succ]
                clear hK K
                clear hHeld
                refine wpAnyH_ready (rs := [14]) (by kernel_rfl) (by simp) ?_
                refine AllReadyH.cons rfl (fun K hK => ?_) AllReadyH.nil
                rw [if_pos (by rfl)]
                have gU := (bcells C2.out hGq k).trans g0q
                go_simp
                refine hK.out _ _ (Chg.of_below C2.out) (fun hHeld => ?_)
                try simp only [Act.put, List.setIfInBounds_toArray, List.set_cons_zero, List.set_cons_succ]
                clear hK K
                refine take_at (i := 15) (k := 80) (v := .slice (some ⟨b0, o0 + 64, none⟩) 64 (cz - 64)) rfl rfl (by kernel_rfl) (by kernel_rfl) (by kernel_rfl) (fun _ _ _ h => h) (Or.inl ⟨by rfl, fun w _ => by go_simp⟩) hHeld ?_
                try simp only [Act.put, List.setIfInBounds_toArray, List.set_cons_zero, List.set_cons_succ]
                clear hHeld
                refine wpAnyH_ready (rs := [16]) (by kernel_rfl) (by simp) ?_
                refine AllReadyH.cons rfl (fun K hK => ?_) AllReadyH.nil
                rw [if_pos (by rfl)]
                refine wp_bytes rfl (.tmp 73) (.tmp 80) rfl v2 (.slice (some ⟨b0, o0 + 64, none⟩) 64 (cz - 64)) (l.take 64) (mm.drop 64) rfl hO2.out rfl ((HU0.out.below C2.out).last 64 (by omega)) (by simp; omega) ?_
                intro v3 U3 hO3 hgr3 hbk3
                have ob3 := own_from ob2 C2.out.size hbk3
                have C3 : Hid (Below wq.heap.size wq U3) := Lib.hid (grown_bel C2.out C2.out.size hgr3 (fun j e => ob2 j e))
                refine hK.out _ _ (Chg.of_below C3.out) (fun hHeld => ?_)
                try simp only [Act.put, List.setIfInBounds_toArray, List.set_cons_zero, List.set_cons_succ]
                clear hK K
                refine take_at (i := 17) (k := 82) (v := .pointer (some ⟨G, k, none⟩)) rfl rfl (by kernel_rfl) (by kernel_rfl) (by kernel_rfl) (fun _ _ _ h => h) (Or.inl ⟨by rfl, fun w _ => by go_simp⟩) hHeld ?_
                try simp only [Act.put, List.setIfInBounds_toArray, List.set_cons_zero, List.set_cons_succ]
                clear hHeld
                have gU := (bcells C3.out hGq k).trans g0q
                have fU := (HOSq.out.below C3.out).free k
                refine wpAnyH_ready (rs := [18]) (by kernel_rfl) (by simp) ?_
                refine AllReadyH.cons rfl (fun K hK => ?_) AllReadyH.nil
                rw [if_pos (by rfl)]
                refine wp_st1 (.tmp 82) (.tmp 81) rfl rfl G k _ v3 rfl rfl gU fU (own_shp3 hO3.out) ?_
                refine hK.out _ _ ((Chg.of_below C3.out).set (.inl rfl) v3) (fun hHeld => ?_)
                try simp only [Act.put, List.setIfInBounds_toArray, List.set_cons_zero, List.set_cons_succ]
                clear hK K hHeld
                refine wpAnyH_done (by kernel_rfl) ?_ _
                have HB3 := Lib.hid (HB1q.out.trans (C3.out.mono HB1q.out.size))
                have hF1 : Hid ((U3.setCell ⟨G, k, none⟩ v3).heap[xb]? = some (.cells #[.slice (some ⟨G, 0, none⟩) N cap, .slice none 0 0, .int .i64 d.left, .bool false] 25 (0, 0))) := Lib.hid (row_set ((C3.out.block _ hxq).trans HXq.out) (fun e => hne e.symm))
                have hF2 : Hid (OS (U3.setCell ⟨G, k, none⟩ v3) G (torn (perfR d.s (d.p.take i)) ((k : Int), l))) := Lib.hid (by
                  rw [hTORN.out]
                  exact (HOSq.out.below C3.out).set k v3 _ (by omega) (bvx_of_own hO3.out ob3 hGq))
                have hF3 : Hid (Below w1.heap.size w1 (U3.setCell ⟨G, k, none⟩ v3)) := Lib.hid (below_set HB3.out hGw _)
                go_wp2_with fail
                go_meet
                case rel => exact ⟨rfl, hF1, hF2, hF3⟩
              · rw [if_pos (by rfl)]
                have gU := (bcells C1.out hGq k).trans g0q
                go_simp
                refine hK.out _ _ (Chg.of_below C1.out) (fun hHeld => ?_)
                try simp only [Act.put, List.setIfInBounds_toArray, List.set_cons_zero, List.set_cons_succ]
                clear hK K
                refine take_at (i := 15) (k := 80) (v := .slice (some ⟨b0, o0 + 64, none⟩) 64 (cz - 64)) rfl rfl (by kernel_rfl) (by kernel_rfl) (by kernel_rfl) (fun _ _ _ h => h) (Or.inl ⟨by rfl, fun w _ => by go_simp⟩) hHeld ?_
                try simp only [Act.put, List.setIfInBounds_toArray, List.set_cons_zero, List.set_cons_succ]
                clear hHeld
                refine wpAnyH_ready (rs := [8]) (by kernel_rfl) (by simp) ?_
                refine AllReadyH.cons rfl (fun K hK => ?_) AllReadyH.nil
                rw [if_pos (by rfl)]
                refine wp_bytes rfl (.tmp 69) (.tmp 72) rfl _ (.slice (some ⟨bu, ou, none⟩) 64 cu) [] (l.take 64) rfl hO1 rfl ((HLBq.out.below C1.out).first (m := 64) (by omega)) (by simp; omega) ?_
                intro v2 U2 hO2 hgr2 hbk2
                have ob2 := own_from ob1 C1.out.size hbk2
                have C2 : Hid (Below wq.heap.size wq U2) := Lib.hid (grown_bel C1.out C1.out.size hgr2 (fun j e => ob1 j e))
                rw [List.nil_append] at hO2
                refine hK.out _ _ (Chg.of_below C2.out) (fun hHeld => ?_)
                try simp only [Act.put, List.setIfInBounds_toArray, List.set_cons_zero, List.set_cons_succ]
                clear hK K
                clear hHeld
                refine wpAnyH_ready (rs := [16]) (by kernel_rfl) (by simp) ?_
                refine AllReadyH.cons rfl (fun K hK => ?_) AllReadyH.nil
                rw [if_pos (by rfl)]
                refine wp_bytes rfl (.tmp 73) (.tmp 80) rfl v2 (.slice (some ⟨b0, o0 + 64, none⟩) 64 (cz - 64)) (l.take 64) (mm.drop 64) rfl hO2.out rfl ((HU0.out.below C2.out).last 64 (by omega)) (by simp; omega) ?_
                intro v3 U3 hO3 hgr3 hbk3
                have ob3 := own_from ob2 C2.out.size hbk3
                have C3 : Hid (Below wq.heap.size wq U3) := Lib.hid (grown_bel C2.out C2.out.size hgr3 (fun j e => ob2 j e))
                refine hK.out _ _ (Chg.of_below C3.out) (fun hHeld => ?_)
                try simp only [Act.put, List.setIfInBounds_toArray, List.set_cons_zero, List.set_cons_succ]
                clear hK K
                refine take_at (i := 17) (k := 82) (v := .pointer (some ⟨G, k, none⟩)) rfl rfl (by kernel_rfl) (by kernel_rfl) (by kernel_rfl) (fun _ _ _ h => h) (Or.inl ⟨by rfl, fun w _ => by go_simp⟩) hHeld ?_
                try simp only [Act.put, List.setIfInBounds_toArray, List.set_cons_zero, List.set_cons_succ]
                clear hHeld
                have gU := (bcells C3.out hGq k).trans g0q
                have fU := (HOSq.out.below C3.out).free k
                refine wpAnyH_ready (rs := [18]) (by kernel_rfl) (by simp) ?_
                refine AllReadyH.cons rfl (fun K hK => ?_) AllReadyH.nil
                rw [if_pos (by rfl)]
                refine wp_st1 (.tmp 82) (.tmp 81) rfl rfl G k _ v3 rfl rfl gU fU (own_shp3 hO3.out) ?_
                refine hK.out _ _ ((Chg.of_below C3.out).set (.inl rfl) v3) (fun hHeld => ?_)
                try simp only [Act.put, List.setIfInBounds_toArray, List.set_cons_zero, List.set_cons_succ]
                clear hK K hHeld
                refine wpAnyH_done (by kernel_rfl) ?_ _
                have HB3 := Lib.hid (HB1q.out.trans (C3.out.mono HB1q.out.size))
                have hF1 : Hid ((U3.setCell ⟨G, k, none⟩ v3).heap[xb]? = some (.cells #[.slice (some ⟨G, 0, none⟩) N cap, .slice none 0 0, .int .i64 d.left, .bool false] 25 (0, 0))) := Lib.hid (row_set ((C3.out.block _ hxq).trans HXq.out) (fun e => hne e.symm))
                have hF2 : Hid (OS (U3.setCell ⟨G, k, none⟩ v3) G (torn (perfR d.s (d.p.take i)) ((k : Int), l))) := Lib.hid (by
                  rw [hTORN.out]
                  exact (HOSq.out.below C3.out).set k v3 _ (by omega) (bvx_of_own hO3.out ob3 hGq))
                have hF3 : Hid (Below w1.heap.size w1 (U3.setCell ⟨G, k, none⟩ v3)) := Lib.hid (below_set HB3.out hGw _)
                go_wp2_with fail
                go_meet
                case rel => exact ⟨rfl, hF1, hF2, hF3⟩
            · rw [if_pos (by rfl)]
              have gU := (bcells Z0.out hGq k).trans g0q
              go_simp
              refine hK.out _ _ (Chg.of_below Z0.out) (fun hHeld => ?_)
              try simp only [Act.put, List.setIfInBounds_toArray, List.set_cons_zero, List.set_cons_succ]
              clear hK K
              refine take_at (i := 15) (k := 80) (v := .slice (some ⟨b0, o0 + 64, none⟩) 64 (cz - 64)) rfl rfl (by kernel_rfl) (by kernel_rfl) (by kernel_rfl) (fun _ _ _ h => h) (Or.inl ⟨by rfl, fun w _ => by go_simp⟩) hHeld ?_
              try simp only [Act.put, List.setIfInBounds_toArray, List.set_cons_zero, List.set_cons_succ]
              clear hHeld
              refine wpAnyH_ready (rs := [4]) (by kernel_rfl) (by simp) ?_
              refine AllReadyH.cons rfl (fun K hK => ?_) AllReadyH.nil
              rw [if_pos (by rfl)]
              refine wp_bs35 rfl rfl ?_
              intro U1 g hu1 hgg hO1
              have C1 : Hid (Below wq.heap.size wq U1) := Lib.hid (Z0.out.trans (hu1.mono Z0.out.size))
              have hgq : wq.heap.size ≤ g := Nat.le_trans Z0.out.size hgg
              have ob1 : ∀ j, (Value.slice (some ⟨g, 0, none⟩) 0 0).ownBlock = some j → wq.heap.size ≤ j := fun j e => by cases e; exact hgq
              refine hK.out _ _ (Chg.of_below C1.out) (fun hHeld => ?_)
              try simp only [Act.put, List.setIfInBounds_toArray, List.set_cons_zero, List.set_cons_succ]
              clear hK K
              clear hHeld
              refine wpAnyH_ready (rs := [8]) (by kernel_rfl) (by simp) ?_
              refine AllReadyH.cons rfl (fun K hK => ?_) AllReadyH.nil
              rw [if_pos (by rfl)]
              refine wp_bytes rfl (.tmp 69) (.tmp 72) rfl _ (.slice (some ⟨bu, ou, none⟩) 64 cu) [] (l.take 64) rfl hO1 rfl ((HLBq.out.below C1.out).first (m := 64) (by omega)) (by simp; omega) ?_
              intro v2 U2 hO2 hgr2 hbk2
              have ob2 := own_from ob1 C1.out.size hbk2
              have C2 : Hid (Below wq.heap.size wq U2) := Lib.hid (grown_bel C1.out C1.out.size hgr2 (fun j e => ob1 j e))
              rw [List.nil_append] at hO2
              refine hK.out _ _ (Chg.of_below C2.out) (fun hHeld => ?_)
              try simp only [Act.put, List.setIfInBounds_toArray, List.set_cons_zero, List.set_cons_succ]
              clear hK K
              clear hHeld
              refine wpAnyH_ready (rs := [16]) (by kernel_rfl) (by simp) ?_
              refine AllReadyH.cons rfl (fun K hK => ?_) AllReadyH.nil
              rw [if_pos (by rfl)]
              refine wp_bytes rfl (.tmp 73) (.tmp 80) rfl v2 (.slice (some ⟨b0, o0 + 64, none⟩) 64 (cz - 64)) (l.take 64) (mm.drop 64) rfl hO2.out rfl ((HU0.out.below C2.out).last 64 (by omega)) (by simp; omega) ?_
              intro v3 U3 hO3 hgr3 hbk3
              have ob3 := own_from ob2 C2.out.size hbk3
              have C3 : Hid (Below wq.heap.size wq U3) := Lib.hid (grown_bel C2.out C2.out.size hgr3 (fun j e => ob2 j e))
              refine hK.out _ _ (Chg.of_below C3.out) (fun hHeld => ?_)
              try simp only [Act.put, List.setIfInBounds_toArray, List.set_cons_zero, List.set_cons_succ]
              clear hK K
              refine take_at (i := 17) (k := 82) (v := .pointer (some ⟨G, k, none⟩)) rfl rfl (by kernel_rfl) (by kernel_rfl) (by kernel_rfl) (fun _ _ _ h => h) (Or.inl ⟨by rfl, fun w _ => by go_simp⟩) hHeld ?_
              try simp only [Act.put, List.setIfInBounds_toArray, List.set_cons_zero, List.set_cons_succ]
              clear hHeld
              have gU := (bcells C3.out hGq k).trans g0q
              have fU := (HOSq.out.below C3.out).free k
              refine wpAnyH_ready (rs := [18]) (by kernel_rfl) (by simp) ?_
              refine AllReadyH.cons rfl (fun K hK => ?_) AllReadyH.nil
              rw [if_pos (by rfl)]
              refine wp_st1 (.tmp 82) (.tmp 81) rfl rfl G k _ v3 rfl rfl gU fU (own_shp3 hO3.out) ?_
              refine hK.out _ _ ((Chg.of_below C3.out).set (.inl rfl) v3) (fun hHeld => ?_)
              try simp only [Act.put, List.setIfInBounds_toArray, List.set_cons_zero, List.set_cons_succ]
              clear hK K hHeld
              refine wpAnyH_done (by kernel_rfl) ?_ _
              have HB3 := Lib.hid (HB1q.out.trans (C3.out.mono HB1q.out.size))
              have hF1 : Hid ((U3.setCell ⟨G, k, none⟩ v3).heap[xb]? = some (.cells #[.slice (some ⟨G, 0, none⟩) N cap, .slice none 0 0, .int .i64 d.left, .bool false] 25 (0, 0))) := Lib.hid (row_set ((C3.out.block _ hxq).trans HXq.out) (fun e => hne e.symm))
              have hF2 : Hid (OS (U3.setCell ⟨G, k, none⟩ v3) G (torn (perfR d.s (d.p.take i)) ((k : Int), l))) := Lib.hid (by
                rw [hTORN.out]
                exact (HOSq.out.below C3.out).set k v3 _ (by omega) (bvx_of_own hO3.out ob3 hGq))
              have hF3 : Hid (Below w1.heap.size w1 (U3.setCell ⟨G, k, none⟩ v3)) := Lib.hid (below_set HB3.out hGw _)
              go_wp2_with fail
              go_meet
              case rel => exact ⟨rfl, hF1, hF2, hF3⟩
          case rest =>
            obtain ⟨rfl, HX3, HOS3, HB3⟩ := hcut
            obtain ⟨⟨x0, x1, x2, x3⟩, hxl3, _⟩ := row4 HX3.out
            have f2 : wc.frozen? ⟨xb, 2, none⟩ = false := by have h := HX3.out; simp [World.frozen?, h]
            have f3 : wc.frozen? ⟨xb, 3, none⟩ = false := by have h := HX3.out; simp [World.frozen?, h]
            have hne3 : xb ≠ w.heap.size + 1 := by omega
            have hr5 : ((wc.setCell ⟨xb, 2, none⟩ (.int .i64 0)).setCell ⟨xb, 3, none⟩ (.bool true)).heap[w.heap.size + 1]? = some (.cells #[.slice none 0 0, .slice none 0 0, .int .i64 0, .bool false] 25 (0, 0)) := row_set (row_set ((HB3.out.block _ hz1).trans r.out) hne3) hne3
            have HR5 := Lib.hid hr5
            have hos4 := (HOS3.out.setBox (k := xb) (o := 2) hne x2 nb_i64 (.int .i64 0)).setBox (k := xb) (o := 3) hne ((sc_other (by decide)).trans x3) nb_bool (.bool true)
            have HOS4 := Lib.hid hos4
            clear hr5 hos4
            go_wp2_with (refine dk_store rfl (.tmp 2) (.tmp 85) rfl (w.heap.size + 1) _ _ _ _ _ HR5.out rfl rfl rfl ⟨rfl, rfl, rfl, rfl⟩ ?_; rintro w5 r5 hc5)
            have hos5 := HOS4.out.chgRow (R := w.heap.size + 1) (by omega) HR5.out zero_nb hc5
            have hpl := HV.out.2.2.2.2.2
            have hNl := HV.out.2.2.2.2.1
            have htl : (torn (perfR d.s (d.p.take i)) ((k : Int), l)).length = N := by unfold torn; rw [List.length_set, hlen]
            have hsv5 := hos5.svc (cap := cap) (by omega) (by unfold maxLen; omega)
            rw [htl] at hsv5
            have hmany : many d = (i : Int) := by unfold many; rw [if_neg (by omega), hpl, if_pos (by omega)]; exact h2
            obtain ⟨e1, e2⟩ := sync_torn HV.out.1 hmany HLI.out
            have e3 : synLeft d = 0 := by unfold synLeft; rw [if_neg (by omega), hmany, h2]; omega
            refine bodyPost_ret (results_dk rfl _ _ _ _ _ _ _ _ rfl rfl r5.out) rfl ?_
            refine RetD.of (d' := ⟨torn (perfR d.s (d.p.take i)) ((k : Int), l), [], 0, true⟩) (by rw [e1, e3]) e2 ⟨_, _, rfl, hsv5, nil_PV _, by show W64 0; unfold W64; omega⟩ ?_
            exact Chg.below (below_set (below_set (HB.out.trans (HB3.out.mono HB.out.size)) (by omega) _) (by omega) _) (by simp only [World.setCell, Array.size_modify]; omega) (by omega) hc5
  · go_upto_region 7 with fail
    go_cut [6] from 32 to 38 (fun s6 wc => ∃ xb G cap : Nat, s6 = .pointer (some ⟨xb, 0, none⟩) ∧ N ≤ cap ∧ cap ≤ 9223372036854775807 ∧ w1.heap.size ≤ xb ∧ w1.heap.size ≤ G ∧ xb ≠ G ∧ Hid (wc.heap[xb]? = some (.cells #[.slice (some ⟨G, 0, none⟩) N cap, .slice none 0 0, .int .i64 d.left, .bool false] 25 (0, 0))) ∧ Hid (OS wc G d.s) ∧ Hid (Below w1.heap.size w1 wc))
    case first =>
      refine wp_region_held_drew (S := fun w' => Below w1.heap.size w1 w') (by kernel_rfl) (drew_below (Below.refl _ _)) (fun hHeld => ?_)
      have B0 := Lib.hid hHeld
      refine take_at (i := 1) (k := 33) (v := .pointer (some ⟨w.heap.size, 0, none⟩)) rfl rfl (by kernel_rfl) (by kernel_rfl) (by kernel_rfl) (fun _ _ _ h => h) (Or.inl ⟨by rfl, fun w _ => by go_simp⟩) hHeld ?_
      try simp only [Act.put, List.setIfInBounds_toArray, List.set_cons_zero, List.set_cons_succ]
      refine take_at (i := 2) (k := 34) (v := .slice (some ⟨sb, so, none⟩) N cs) rfl rfl (by kernel_rfl) (by kernel_rfl) (by kernel_rfl) (fun _ _ _ h => h) (Or.inl ⟨by rfl, fun w' h => by have e := (bcells h hzw 0).trans c0; go_simp⟩) hHeld ?_
      try simp only [Act.put, List.setIfInBounds_toArray, List.set_cons_zero, List.set_cons_succ]
      refine take_at (i := 4) (k := 36) (v := .pointer (some ⟨w.heap.size, 2, none⟩)) rfl rfl (by kernel_rfl) (by kernel_rfl) (by kernel_rfl) (fun _ _ _ h => h) (Or.inl ⟨by rfl, fun w _ => by go_simp⟩) hHeld ?_
      try simp only [Act.put, List.setIfInBounds_toArray, List.set_cons_zero, List.set_cons_succ]
      refine take_at (i := 5) (k := 37) (v := .int .i64 d.left) rfl rfl (by kernel_rfl) (by kernel_rfl) (by kernel_rfl) (fun _ _ _ h => h) (Or.inl ⟨by rfl, fun w' h => by have e := (bcells h hzw 2).trans c2; go_simp⟩) hHeld ?_
      try simp only [Act.put, List.setIfInBounds_toArray, List.set_cons_zero, List.set_cons_succ]
      clear hHeld
      refine wpAnyH_ready (rs := [0, 7]) (by kernel_rfl) (by simp) ?_
      refine AllReadyH.cons rfl (fun K hK => ?_) (AllReadyH.cons rfl (fun K hK => ?_) AllReadyH.nil)
      · rw [if_pos (by rfl)]
        refine wp_bs22 rfl rfl ?_
        intro U1 g huU1 hg1 hg2 hGU1
        have B1 := Lib.hid (B0.out.trans (huU1.mono B0.out.size))
        have hgw : w1.heap.size ≤ g := Nat.le_trans B0.out.size hg1
        refine hK.out _ _ B1.out (fun hHeld => ?_)
        try simp only [Act.put, List.setIfInBounds_toArray, List.set_cons_zero, List.set_cons_succ]
        clear hK K
        clear hHeld
        refine wpAnyH_ready (rs := [3, 7]) (by kernel_rfl) (by simp) ?_
        refine AllReadyH.cons rfl (fun K hK => ?_) (AllReadyH.cons rfl (fun K hK => ?_) AllReadyH.nil)
        · rw [if_pos (by rfl)]
          refine wp_hdrs rfl (.tmp 32) (.tmp 34) rfl g _ hGU1.out rfl rfl us N HU.out.1 v1 v2 (src_us HU.out.1 HU.out.2.1 HU.out.2.2.2 (HB.out.trans (B1.out.mono HB.out.size)) hsb) ?_
          intro U2 G cap hk1 hk2 hGg hO hgr
          have B2 : Hid (Below w1.heap.size w1 U2) := Lib.hid (grown_below hgr B1.out hgw B1.out.size)
          have hGw : w1.heap.size ≤ G := by rcases hGg with rfl | h; exact hgw; exact Nat.le_trans B1.out.size h
          refine hK.out _ _ B2.out (fun hHeld => ?_)
          try simp only [Act.put, List.setIfInBounds_toArray, List.set_cons_zero, List.set_cons_succ]
          clear hK K
          refine take_at (i := 6) (k := 38) (v := .agg #[.slice (some ⟨G, 0, none⟩) N cap, .slice none 0 0, .int .i64 d.left, .bool false]) rfl rfl (by kernel_rfl) (by kernel_rfl) (by kernel_rfl) (fun _ _ _ h => h) (Or.inl ⟨by rfl, fun w _ => by go_simp⟩) hHeld ?_
          try simp only [Act.put, List.setIfInBounds_toArray, List.set_cons_zero, List.set_cons_succ]
          clear hHeld
          refine wpAnyH_ready (rs := [7]) (by kernel_rfl) (by simp) ?_
          refine AllReadyH.cons rfl (fun K hK => ?_) AllReadyH.nil
          rw [if_pos (by rfl)]
          refine wp_al25 rfl rfl ?_
          intro U3 xb huU3 hx1 hx2 hXU3
          have B3 := Lib.hid (B2.out.trans (huU3.mono B2.out.size))
          have hxw : w1.heap.size ≤ xb := Nat.le_trans B2.out.size hx1
          have hne : xb ≠ G := by have := hO.lt; omega
          have hO3 := hO.keep huU3.size (huU3.block G hO.lt)
          refine hK.out _ _ B3.out (fun hHeld => ?_)
          try simp only [Act.put, List.setIfInBounds_toArray, List.set_cons_zero, List.set_cons_succ]
          clear hK K
          clear hHeld
          refine wpAnyH_ready (rs := [8]) (by kernel_rfl) (by simp) ?_
          refine AllReadyH.cons rfl (fun K hK => ?_) AllReadyH.nil
          rw [if_pos (by rfl)]
          refine wp_st25 (.tmp 6) (.tmp 38) rfl rfl xb _ _ _ _ _ rfl rfl hXU3.out rfl ⟨rfl, rfl, rfl, rfl⟩ ?_
          intro U4 hXU4 hch
          have B4 : Hid (Below w1.heap.size w1 U4) := Lib.hid (Chg.below B3.out B3.out.size hxw hch)
          have hO4 := hO3.keep hch.size (hch.block G hO3.lt (fun e => hne e.symm))
          refine hK.out _ _ B4.out (fun hHeld => ?_)
          try simp only [Act.put, List.setIfInBounds_toArray, List.set_cons_zero, List.set_cons_succ]
          clear hK K
          clear hHeld
          refine wpAnyH_done (by kernel_rfl) ?_ _
          have hw1 := HB.out.size
          go_wp2_with fail
          go_meet
          case rel => exact ⟨xb, G, cap, rfl, hk1, hk2, hxw, hGw, hne, hXU4, Lib.hid (os_of_own hO4 (Nat.le_trans hw1 hGw) (HB.out.trans (B4.out.mono HB.out.size)) HU.out.2.2.1), B4⟩
        · rw [if_pos (by rfl)]
          refine wp_al25 rfl rfl ?_
          intro U2 xb huU2 hx1 hx2 hXU2
          have B2 := Lib.hid (B1.out.trans (huU2.mono B1.out.size))
          have hxw : w1.heap.size ≤ xb := Nat.le_trans B1.out.size hx1
          have hxg : xb ≠ g := by omega
          have hG2 := (huU2.block g hg2).trans hGU1.out
          refine hK.out _ _ B2.out (fun hHeld => ?_)
          try simp only [Act.put, List.setIfInBounds_toArray, List.set_cons_zero, List.set_cons_succ]
          clear hK K
          clear hHeld
          refine wpAnyH_ready (rs := [3]) (by kernel_rfl) (by simp) ?_
          refine AllReadyH.cons rfl (fun K hK => ?_) AllReadyH.nil
          rw [if_pos (by rfl)]
          refine wp_hdrs rfl (.tmp 32) (.tmp 34) rfl g _ hG2 rfl rfl us N HU.out.1 v1 v2 (src_us HU.out.1 HU.out.2.1 HU.out.2.2.2 (HB.out.trans (B2.out.mono HB.out.size)) hsb) ?_
          intro U3 G cap hk1 hk2 hGg hO hgr
          have B3 : Hid (Below w1.heap.size w1 U3) := Lib.hid (grown_below hgr B2.out hgw B2.out.size)
          have hGw : w1.heap.size ≤ G := by rcases hGg with rfl | h; exact hgw; exact Nat.le_trans B2.out.size h
          have hne : xb ≠ G := by rcases hGg with rfl | h; exact hxg; omega
          have hX3 := grown_row hgr hx2 hxg hXU2.out
          refine hK.out _ _ B3.out (fun hHeld => ?_)
          try simp only [Act.put, List.setIfInBounds_toArray, List.set_cons_zero, List.set_cons_succ]
          clear hK K
          refine take_at (i := 6) (k := 38) (v := .agg #[.slice (some ⟨G, 0, none⟩) N cap, .slice none 0 0, .int .i64 d.left, .bool false]) rfl rfl (by kernel_rfl) (by kernel_rfl) (by kernel_rfl) (fun _ _ _ h => h) (Or.inl ⟨by rfl, fun w _ => by go_simp⟩) hHeld ?_
          try simp only [Act.put, List.setIfInBounds_toArray, List.set_cons_zero, List.set_cons_succ]
          clear hHeld
          refine wpAnyH_ready (rs := [8]) (by kernel_rfl) (by simp) ?_
          refine AllReadyH.cons rfl (fun K hK => ?_) AllReadyH.nil
          rw [if_pos (by rfl)]
          refine wp_st25 (.tmp 6) (.tmp 38) rfl rfl xb _ _ _ _ _ rfl rfl hX3 rfl ⟨rfl, rfl, rfl, rfl⟩ ?_
          intro U4 hXU4 hch
          have B4 : Hid (Below w1.heap.size w1 U4) := Lib.hid (Chg.below B3.out B3.out.size hxw hch)
          have hO4 := hO.keep hch.size (hch.block G hO.lt (fun e => hne e.symm))
          refine hK.out _ _ B4.out (fun hHeld => ?_)
          try simp only [Act.put, List.setIfInBounds_toArray, List.set_cons_zero, List.set_cons_succ]
          clear hK K
          clear hHeld
          refine wpAnyH_done (by kernel_rfl) ?_ _
          have hw1 := HB.out.size
          go_wp2_with fail
          go_meet
          case rel => exact ⟨xb, G, cap, rfl, hk1, hk2, hxw, hGw, hne, hXU4, Lib.hid (os_of_own hO4 (Nat.le_trans hw1 hGw) (HB.out.trans (B4.out.mono HB.out.size)) HU.out.2.2.1), B4⟩
      · rw [if_pos (by rfl)]
        refine wp_al25 rfl rfl ?_
        intro U1 xb huU1 hx1 hx2 hXU1
        have B1 := Lib.hid (B0.out.trans (huU1.mono B0.out.size))
        have hxw : w1.heap.size ≤ xb := Nat.le_trans B0.out.size hx1
        refine hK.out _ _ B1.out (fun hHeld => ?_)
        try simp only [Act.put, List.setIfInBounds_toArray, List.set_cons_zero, List.set_cons_succ]
        clear hK K
        clear hHeld
        refine wpAnyH_ready (rs := [0]) (by kernel_rfl) (by simp) ?_
        refine AllReadyH.cons rfl (fun K hK => ?_) AllReadyH.nil
        rw [if_pos (by rfl)]
        refine wp_bs22 rfl rfl ?_
        intro U2 g huU2 hg1 hg2 hGU2
        have B2 := Lib.hid (B1.out.trans (huU2.mono B1.out.size))
        have hgw : w1.heap.size ≤ g := Nat.le_trans B1.out.size hg1
        have hxg : xb ≠ g := by omega
        have hX2 := (huU2.block xb hx2).trans hXU1.out
        have hxl : xb < U2.heap.size := Nat.lt_of_lt_of_le hx2 huU2.size
        refine hK.out _ _ B2.out (fun hHeld => ?_)
        try simp only [Act.put, List.setIfInBounds_toArray, List.set_cons_zero, List.set_cons_succ]
        clear hK K
        clear hHeld
        refine wpAnyH_ready (rs := [3]) (by kernel_rfl) (by simp) ?_
        refine AllReadyH.cons rfl (fun K hK => ?_) AllReadyH.nil
        rw [if_pos (by rfl)]
        refine wp_hdrs rfl (.tmp 32) (.tmp 34) rfl g _ hGU2.out rfl rfl us N HU.out.1 v1 v2 (src_us HU.out.1 HU.out.2.1 HU.out.2.2.2 (HB.out.trans (B2.out.mono HB.out.size)) hsb) ?_
        intro U3 G cap hk1 hk2 hGg hO hgr
        have B3 : Hid (Below w1.heap.size w1 U3) := Lib.hid (grown_below hgr B2.out hgw B2.out.size)
        have hGw : w1.heap.size ≤ G := by rcases hGg with rfl | h; exact hgw; exact Nat.le_trans B2.out.size h
        have hne : xb ≠ G := by rcases hGg with rfl | h; exact hxg; omega
        have hX3 := grown_row hgr hxl hxg hX2
        refine hK.out _ _ B3.out (fun hHeld => ?_)
        try simp only [Act.put, List.setIfInBounds_toArray, List.set_cons_zero, List.set_cons_succ]
        clear hK K
        refine take_at (i := 6) (k := 38) (v := .agg #[.slice (some ⟨G, 0, none⟩) N cap, .slice none 0 0, .int .i64 d.left, .bool false]) rfl rfl (by kernel_rfl) (by kernel_rfl) (by kernel_rfl) (fun _ _ _ h => h) (Or.inl ⟨by rfl, fun w _ => by go_simp⟩) hHeld ?_
        try simp only [Act.put, List.setIfInBounds_toArray, List.set_cons_zero, List.set_cons_succ]
        clear hHeld
        refine wpAnyH_ready (rs := [8]) (by kernel_rfl) (by simp) ?_
        refine AllReadyH.cons rfl (fun K hK => ?_) AllReadyH.nil
        rw [if_pos (by rfl)]
        refine wp_st25 (.tmp 6) (.tmp 38) rfl rfl xb _ _ _ _ _ rfl rfl hX3 rfl ⟨rfl, rfl, rfl, rfl⟩ ?_
        intro U4 hXU4 hch
        have B4 : Hid (Below w1.heap.size w1 U4) := Lib.hid (Chg.below B3.out B3.out.size hxw hch)
        have hO4 := hO.keep hch.size (hch.block G hO.lt (fun e => hne e.symm))
        refine hK.out _ _ B4.out (fun hHeld => ?_)
        try simp only [Act.put, List.setIfInBounds_toArray, List.set_cons_zero, List.set_cons_succ]
        clear hK K
        clear hHeld
        refine wpAnyH_done (by kernel_rfl) ?_ _
        have hw1 := HB.out.size
        go_wp2_with fail
        go_meet
        case rel => exact ⟨xb, G, cap, rfl, hk1, hk2, hxw, hGw, hne, hXU4, Lib.hid (os_of_own hO4 (Nat.le_trans hw1 hGw) (HB.out.trans (B4.out.mono HB.out.size)) HU.out.2.2.1), B4⟩
    case rest =>
      obtain ⟨xb, G, cap, rfl, hk1, hk2, hxw, hGw, hne, HX, HOS, HBc⟩ := hcut
      go_wp2_with fail
      go_loopw [7] (fun x wr => ∃ i : Nat, i ≤ m ∧ x = .int .i64 i ∧ Hid (wr.heap[xb]? = some (.cells #[.slice (some ⟨G, 0, none⟩) N cap, .slice none 0 0, .int .i64 d.left, .bool false] 25 (0, 0))) ∧ Hid (OS wr G (perfR d.s (d.p.take i))) ∧ Hid (Below w1.heap.size w1 wr)) (fun x _ => m - (intOf x).toNat)
      case atStart => exact ⟨0, Nat.zero_le _, rfl, HX, HOS, HBc⟩
      case round =>
        clear HX HOS HBc
        obtain ⟨i, hi, rfl, HX, HOS, HB1⟩ := hrel
        have hw1 := HB.out.size
        have hzr := HB1.out.size
        have p1 := (bcells HB1.out hzw 1).trans c1
        by_cases hlt : i < m
        · obtain ⟨b, o, n, pu, L, cu, l, rfl, hb, q0, q1, HL, hL1, hL2, hL3⟩ := HO.out.penAt i (by omega)
          have hpn := penB_of (List.all_eq_true.1 HV.out.2.2.2.1 (n, l) (List.mem_of_getElem? HL.out.1))
          simp only at hpn
          obtain ⟨k, rfl⟩ : ∃ k : Nat, n = (k : Int) := ⟨n.toNat, by omega⟩
          have hkN : k < N := by omega
          have hkNi : (k : Int) < (N : Int) := by omega
          have hlti : (i : Int) < (m : Int) := by omega
          have hHBr := Lib.hid (HB.out.trans (HB1.out.mono HB.out.size))
          have q0r := (bcells hHBr.out hb _).trans q0
          have q1r := (bcells hHBr.out hb _).trans q1
          have hlen : (perfR d.s (d.p.take i)).length = N := by
            rw [(perf_eq (d.p.take i) d.s HV.out.2.2.1 (List.all_eq_true.2 fun y hy => List.all_eq_true.1 (by have := HV.out.2.2.2.1; rwa [← HV.out.2.2.2.2.1] at this) y (List.mem_of_mem_take hy))).2.2]
            exact HV.out.2.2.2.2.1
          obtain ⟨u0, g0, _⟩ := HOS.out.at' k ((perfR d.s (d.p.take i))[k]'(by omega)) (List.getElem?_eq_getElem (by omega))
          have gf := HOS.out.free k
          obtain ⟨⟨x0, x1, x2, x3⟩, hxlt, _⟩ := row4 HX.out
          have hGl := HOS.out.lt
          have HOS2 : Hid (OS (wr.setCell ⟨G, k, none⟩ (.slice pu L cu)) G (perfR d.s (d.p.take (i + 1)))) := Lib.hid (by
            rw [perfR_succ d i HL.out.1, Int.toNat_natCast]
            refine HOS.out.set k _ l (by omega) (BVx.of_new HL.out.2.2 (Nat.le_trans hw1 hGw) |>.below hHBr.out))
          have HX2 : Hid ((wr.setCell ⟨G, k, none⟩ (.slice pu L cu)).heap[xb]? = some (.cells #[.slice (some ⟨G, 0, none⟩) N cap, .slice none 0 0, .int .i64 d.left, .bool false] 25 (0, 0))) := Lib.hid (row_set HX.out (fun e => hne e.symm))
          have HB2 : Hid (Below w1.heap.size w1 (wr.setCell ⟨G, k, none⟩ (.slice pu L cu))) := Lib.hid (below_set HB1.out hGw _)
          have n1 : G ≠ w.heap.size := by omega
          have n2 : G ≠ xb := fun e => hne e.symm
          have n3 : G ≠ b := by omega
          have hiM : (i : Int) < (m : Int) := by omega
          clear q0 q1 x1 x2 x3
          go_wp2_with fail
          go_region_held3 (fun w' => w'.cell? ⟨xb, 0, none⟩ = some (.slice (some ⟨G, 0, none⟩) N cap) ∧ w'.cell? ⟨w.heap.size, 1, none⟩ = some (.slice (some ⟨b, o, none⟩) m cp) ∧ w'.cell? ⟨b, o + i * 2, none⟩ = some (.int .i64 (k : Int)) ∧ w'.cell? ⟨b, o + i * 2 + 1, none⟩ = some (.slice pu L cu)) (go_keep) (fail)
          clear x0 q0r q1r g0 gf p1
          go_wp2_with fail
          go_roundw
          case rel => exact ⟨i + 1, by omega, by go_num, HX2, Lib.hid (HOS2.out.below (drew_below (Below.refl _ _))), Lib.hid (drew_below HB2.out)⟩
          case measure => simp [intOf]; omega
        · obtain rfl : i = m := by omega
          obtain ⟨⟨x0, x1, x2, x3⟩, hxlt, xf⟩ := row4 HX.out
          have xf2 : wr.frozen? ⟨xb, 2, none⟩ = false := by have h := HX.out; simp [World.frozen?, h]
          have hr5 : (wr.setCell ⟨xb, 2, none⟩ (.int .i64 (d.left - i))).heap[w.heap.size + 1]? = some (.cells #[.slice none 0 0, .slice none 0 0, .int .i64 0, .bool false] 25 (0, 0)) := row_set ((HB1.out.block _ hz1).trans r.out) (by omega)
          have HR5 := Lib.hid hr5
          have hos4 := HOS.out.setBox (k := xb) (o := 2) hne x2 nb_i64 (.int .i64 (d.left - i))
          have HOS4 := Lib.hid hos4
          clear hr5 hos4
          go_wp2_with (refine dk_store rfl (.tmp 2) (.tmp 94) rfl (w.heap.size + 1) _ _ _ _ _ HR5.out rfl rfl rfl ⟨rfl, rfl, rfl, rfl⟩ ?_; rintro w5 r5 hc5)
          have hos5 := HOS4.out.chgRow (R := w.heap.size + 1) (by omega) HR5.out zero_nb hc5
          have hpl := HV.out.2.2.2.2.2
          have hNl := HV.out.2.2.2.2.1
          obtain ⟨q1, q2, q3⟩ := perf_eq d.p d.s HV.out.2.2.1 (by rw [hNl]; exact HV.out.2.2.2.1)
          rw [List.take_of_length_le (by omega)] at hos5
          have hsv5 := hos5.svc (cap := cap) (by omega) (by unfold maxLen; omega)
          rw [q3, hNl] at hsv5
          have hmany : many d = (i : Int) := by unfold many; rw [if_neg (by omega), hpl, if_neg (by omega)]
          obtain ⟨e1, e2⟩ := sync_full HV.out.1 hmany hpl
          have e3 : synLeft d = d.left - i := by unfold synLeft; rw [if_neg (by omega), hmany]
          refine bodyPost_ret (results_dk rfl _ _ _ _ _ _ _ _ rfl rfl r5.out) rfl ?_
          refine RetD.of (d' := ⟨perfR d.s d.p, [], d.left - i, false⟩) (by rw [e1, e3, HV.out.2.1]) e2 ⟨_, _, rfl, hsv5, nil_PV _, by show W64 (d.left - i); unfold W64; omega⟩ ?_
          exact Chg.below (below_set (HB.out.trans (HB1.out.mono HB.out.size)) (by omega) _) (by simp only [World.setCell, Array.size_modify]; omega) (by omega) hc5
  · go_upto_region 7 with fail
    go_cut [6] from 32 to 38 (fun s6 wc => ∃ xb G cap : Nat, s6 = .pointer (some ⟨xb, 0, none⟩) ∧ N ≤ cap ∧ cap ≤ 9223372036854775807 ∧ w1.heap.size ≤ xb ∧ w1.heap.size ≤ G ∧ xb ≠ G ∧ Hid (wc.heap[xb]? = some (.cells #[.slice (some ⟨G, 0, none⟩) N cap, .slice none 0 0, .int .i64 d.left, .bool false] 25 (0, 0))) ∧ Hid (OS wc G d.s) ∧ Hid (Below w1.heap.size w1 wc))
    case first =>
      refine wp_region_held_drew (S := fun w' => Below w1.heap.size w1 w') (by kernel_rfl) (drew_below (Below.refl _ _)) (fun hHeld => ?_)
      have B0 := Lib.hid hHeld
      refine take_at (i := 1) (k := 33) (v := .pointer (some ⟨w.heap.size, 0, none⟩)) rfl rfl (by kernel_rfl) (by kernel_rfl) (by kernel_rfl) (fun _ _ _ h => h) (Or.inl ⟨by rfl, fun w _ => by go_simp⟩) hHeld ?_
      try simp only [Act.put, List.setIfInBounds_toArray, List.set_cons_zero, List.set_cons_succ]
      refine take_at (i := 2) (k := 34) (v := .slice (some ⟨sb, so, none⟩) N cs) rfl rfl (by kernel_rfl) (by kernel_rfl) (by kernel_rfl) (fun _ _ _ h => h) (Or.inl ⟨by rfl, fun w' h => by have e := (bcells h hzw 0).trans c0; go_simp⟩) hHeld ?_
      try simp only [Act.put, List.setIfInBounds_toArray, List.set_cons_zero, List.set_cons_succ]
      refine take_at (i := 4) (k := 36) (v := .pointer (some ⟨w.heap.size, 2, none⟩)) rfl rfl (by kernel_rfl) (by kernel_rfl) (by kernel_rfl) (fun _ _ _ h => h) (Or.inl ⟨by rfl, fun w _ => by go_simp⟩) hHeld ?_
      try simp only [Act.put, List.setIfInBounds_toArray, List.set_cons_zero, List.set_cons_succ]
      refine take_at (i := 5) (k := 37) (v := .int .i64 d.left) rfl rfl (by kernel_rfl) (by kernel_rfl) (by kernel_rfl) (fun _ _ _ h => h) (Or.inl ⟨by rfl, fun w' h => by have e := (bcells h hzw 2).trans c2; go_simp⟩) hHeld ?_
      try simp only [Act.put, List.setIfInBounds_toArray, List.set_cons_zero, List.set_cons_succ]
      clear hHeld
      refine wpAnyH_ready (rs := [0, 7]) (by kernel_rfl) (by simp) ?_
      refine AllReadyH.cons rfl (fun K hK => ?_) (AllReadyH.cons rfl (fun K hK => ?_) AllReadyH.nil)
      · rw [if_pos (by rfl)]
        refine wp_bs22 rfl rfl ?_
        intro U1 g huU1 hg1 hg2 hGU1
        have B1 := Lib.hid (B0.out.trans (huU1.mono B0.out.size))
        have hgw : w1.heap.size ≤ g := Nat.le_trans B0.out.size hg1
        refine hK.out _ _ B1.out (fun hHeld => ?_)
        try simp only [Act.put, List.setIfInBounds_toArray, List.set_cons_zero, List.set_cons_succ]
        clear hK K
        clear hHeld
        refine wpAnyH_ready (rs := [3, 7]) (by kernel_rfl) (by simp) ?_
        refine AllReadyH.cons rfl (fun K hK => ?_) (AllReadyH.cons rfl (fun K hK => ?_) AllReadyH.nil)
        · rw [if_pos (by rfl)]
          refine wp_hdrs rfl (.tmp 32) (.tmp 34) rfl g _ hGU1.out rfl rfl us N HU.out.1 v1 v2 (src_us HU.out.1 HU.out.2.1 HU.out.2.2.2 (HB.out.trans (B1.out.mono HB.out.size)) hsb) ?_
          intro U2 G cap hk1 hk2 hGg hO hgr
          have B2 : Hid (Below w1.heap.size w1 U2) := Lib.hid (grown_below hgr B1.out hgw B1.out.size)
          have hGw : w1.heap.size ≤ G := by rcases hGg with rfl | h; exact hgw; exact Nat.le_trans B1.out.size h
          refine hK.out _ _ B2.out (fun hHeld => ?_)
          try simp only [Act.put, List.setIfInBounds_toArray, List.set_cons_zero, List.set_cons_succ]
          clear hK K
          refine take_at (i := 6) (k := 38) (v := .agg #[.slice (some ⟨G, 0, none⟩) N cap, .slice none 0 0, .int .i64 d.left, .bool false]) rfl rfl (by kernel_rfl) (by kernel_rfl) (by kernel_rfl) (fun _ _ _ h => h) (Or.inl ⟨by rfl, fun w _ => by go_simp⟩) hHeld ?_
          try simp only [Act.put, List.setIfInBounds_toArray, List.set_cons_zero, List.set_cons_succ]
          clear hHeld
          refine wpAnyH_ready (rs := [7]) (by kernel_rfl) (by simp) ?_
          refine AllReadyH.cons rfl (fun K hK => ?_) AllReadyH.nil
          rw [if_pos (by rfl)]
          refine wp_al25 rfl rfl ?_
          intro U3 xb huU3 hx1 hx2 hXU3
          have B3 := Lib.hid (B2.out.trans (huU3.mono B2.out.size))
          have hxw : w1.heap.size ≤ xb := Nat.le_trans B2.out.size hx1
          have hne : xb ≠ G := by have := hO.lt; omega
          have hO3 := hO.keep huU3.size (huU3.block G hO.lt)
          refine hK.out _ _ B3.out (fun hHeld => ?_)
          try simp only [Act.put, List.setIfInBounds_toArray, List.set_cons_zero, List.set_cons_succ]
          clear hK K
          clear hHeld
          refine wpAnyH_ready (rs := [8]) (by kernel_rfl) (by simp) ?_
          refine AllReadyH.cons rfl (fun K hK => ?_) AllReadyH.nil
          rw [if_pos (by rfl)]
          refine wp_st25 (.tmp 6) (.tmp 38) rfl rfl xb _ _ _ _ _ rfl rfl hXU3.out rfl ⟨rfl, rfl, rfl, rfl⟩ ?_
          intro U4 hXU4 hch
          have B4 : Hid (Below w1.heap.size w1 U4) := Lib.hid (Chg.below B3.out B3.out.size hxw hch)
          have hO4 := hO3.keep hch.size (hch.block G hO3.lt (fun e => hne e.symm))
          refine hK.out _ _ B4.out (fun hHeld => ?_)
          try simp only [Act.put, List.setIfInBounds_toArray, List.set_cons_zero, List.set_cons_succ]
          clear hK K
          clear hHeld
          refine wpAnyH_done (by kernel_rfl) ?_ _
          have hw1 := HB.out.size
          go_wp2_with fail
          go_meet
          case rel => exact ⟨xb, G, cap, rfl, hk1, hk2, hxw, hGw, hne, hXU4, Lib.hid (os_of_own hO4 (Nat.le_trans hw1 hGw) (HB.out.trans (B4.out.mono HB.out.size)) HU.out.2.2.1), B4⟩
        · rw [if_pos (by rfl)]
          refine wp_al25 rfl rfl ?_
          intro U2 xb huU2 hx1 hx2 hXU2
          have B2 := Lib.hid (B1.out.trans (huU2.mono B1.out.size))
          have hxw : w1.heap.size ≤ xb := Nat.le_trans B1.out.size hx1
          have hxg : xb ≠ g := by omega
          have hG2 := (huU2.block g hg2).trans hGU1.out
          refine hK.out _ _ B2.out (fun hHeld => ?_)
          try simp only [Act.put, List.setIfInBounds_toArray, List.set_cons_zero, List.set_cons_succ]
          clear hK K
          clear hHeld
          refine wpAnyH_ready (rs := [3]) (by kernel_rfl) (by simp) ?_
          refine AllReadyH.cons rfl (fun K hK => ?_) AllReadyH.nil
          rw [if_pos (by rfl)]
          refine wp_hdrs rfl (.tmp 32) (.tmp 34) rfl g _ hG2 rfl rfl us N HU.out.1 v1 v2 (src_us HU.out.1 HU.out.2.1 HU.out.2.2.2 (HB.out.trans (B2.out.mono HB.out.size)) hsb) ?_
          intro U3 G cap hk1 hk2 hGg hO hgr
          have B3 : Hid (Below w1.heap.size w1 U3) := Lib.hid (grown_below hgr B2.out hgw B2.out.size)
          have hGw : w1.heap.size ≤ G := by rcases hGg with rfl | h; exact hgw; exact Nat.le_trans B2.out.size h
          have hne : xb ≠ G := by rcases hGg with rfl | h; exact hxg; omega
          have hX3 := grown_row hgr hx2 hxg hXU2.out
          refine hK.out _ _ B3.out (fun hHeld => ?_)
          try simp only [Act.put, List.setIfInBounds_toArray, List.set_cons_zero, List.set_cons_succ]
          clear hK K
          refine take_at (i := 6) (k := 38) (v := .agg #[.slice (some ⟨G, 0, none⟩) N cap, .slice none 0 0, .int .i64 d.left, .bool false]) rfl rfl (by kernel_rfl) (by kernel_rfl) (by kernel_rfl) (fun _ _ _ h => h) (Or.inl ⟨by rfl, fun w _ => by go_simp⟩) hHeld ?_
          try simp only [Act.put, List.setIfInBounds_toArray, List.set_cons_zero, List.set_cons_succ]
          clear hHeld
          refine wpAnyH_ready (rs := [8]) (by kernel_rfl) (by simp) ?_
          refine AllReadyH.cons rfl (fun K hK => ?_) AllReadyH.nil
          rw [if_pos (by rfl)]
          refine wp_st25 (.tmp 6) (.tmp 38) rfl rfl xb _ _ _ _ _ rfl rfl hX3 rfl ⟨rfl, rfl, rfl, rfl⟩ ?_
          intro U4 hXU4 hch
          have B4 : Hid (Below w1.heap.size w1 U4) := Lib.hid (Chg.below B3.out B3.out.size hxw hch)
          have hO4 := hO.keep hch.size (hch.block G hO.lt (fun e => hne e.symm))
          refine hK.out _ _ B4.out (fun hHeld => ?_)
          try simp only [Act.put, List.setIfInBounds_toArray, List.set_cons_zero, List.set_cons_succ]
          clear hK K
          clear hHeld
          refine wpAnyH_done (by kernel_rfl) ?_ _
          have hw1 := HB.out.size
          go_wp2_with fail
          go_meet
          case rel => exact ⟨xb, G, cap, rfl, hk1, hk2, hxw, hGw, hne, hXU4, Lib.hid (os_of_own hO4 (Nat.le_trans hw1 hGw) (HB.out.trans (B4.out.mono HB.out.size)) HU.out.2.2.1), B4⟩
      · rw [if_pos (by rfl)]
        refine wp_al25 rfl rfl ?_
        intro U1 xb huU1 hx1 hx2 hXU1
        have B1 := Lib.hid (B0.out.trans (huU1.mono B0.out.size))
        have hxw : w1.heap.size ≤ xb := Nat.le_trans B0.out.size hx1
        refine hK.out _ _ B1.out (fun hHeld => ?_)
        try simp only [Act.put, List.setIfInBounds_toArray, List.set_cons_zero, List.set_cons_succ]
        clear hK K
        clear hHeld
        refine wpAnyH_ready (rs := [0]) (by kernel_rfl) (by simp) ?_
        refine AllReadyH.cons rfl (fun K hK => ?_) AllReadyH.nil
        rw [if_pos (by rfl)]
        refine wp_bs22 rfl rfl ?_
        intro U2 g huU2 hg1 hg2 hGU2
        have B2 := Lib.hid (B1.out.trans (huU2.mono B1.out.size))
        have hgw : w1.heap.size ≤ g := Nat.le_trans B1.out.size hg1
        have hxg : xb ≠ g := by omega
        have hX2 := (huU2.block xb hx2).trans hXU1.out
        have hxl : xb < U2.heap.size := Nat.lt_of_lt_of_le hx2 huU2.size
        refine hK.out _ _ B2.out (fun hHeld => ?_)
        try simp only [Act.put, List.setIfInBounds_toArray, List.set_cons_zero, List.set_cons_succ]
        clear hK K
        clear hHeld
        refine wpAnyH_ready (rs := [3]) (by kernel_rfl) (by simp) ?_
        refine AllReadyH.cons rfl (fun K hK => ?_) AllReadyH.nil
        rw [if_pos (by rfl)]
        refine wp_hdrs rfl (.tmp 32) (.tmp 34) rfl g _ hGU2.out rfl rfl us N HU.out.1 v1 v2 (src_us HU.out.1 HU.out.2.1 HU.out.2.2.2 (HB.out.trans (B2.out.mono HB.out.size)) hsb) ?_
        intro U3 G cap hk1 hk2 hGg hO hgr
        have B3 : Hid (Below w1.heap.size w1 U3) := Lib.hid (grown_below hgr B2.out hgw B2.out.size)
        have hGw : w1.heap.size ≤ G := by rcases hGg with rfl | h; exact hgw; exact Nat.le_trans B2.out.size h
        have hne : xb ≠ G := by rcases hGg with rfl | h; exact hxg; omega
        have hX3 := grown_row hgr hxl hxg hX2
        refine hK.out _ _ B3.out (fun hHeld => ?_)
        try simp only [Act.put, List.setIfInBounds_toArray, List.set_cons_zero, List.set_cons_succ]
        clear hK K
        refine take_at (i := 6) (k := 38) (v := .agg #[.slice (some ⟨G, 0, none⟩) N cap, .slice none 0 0, .int .i64 d.left, .bool false]) rfl rfl (by kernel_rfl) (by kernel_rfl) (by kernel_rfl) (fun _ _ _ h => h) (Or.inl ⟨by rfl, fun w _ => by go_simp⟩) hHeld ?_
        try simp only [Act.put, List.setIfInBounds_toArray, List.set_cons_zero, List.set_cons_succ]
        clear hHeld
        refine wpAnyH_ready (rs := [8]) (by kernel_rfl) (by simp) ?_
        refine AllReadyH.cons rfl (fun K hK => ?_) AllReadyH.nil
        rw [if_pos (by rfl)]
        refine wp_st25 (.tmp 6) (.tmp 38) rfl rfl xb _ _ _ _ _ rfl rfl hX3 rfl ⟨rfl, rfl, rfl, rfl⟩ ?_
        intro U4 hXU4 hch
        have B4 : Hid (Below w1.heap.size w1 U4) := Lib.hid (Chg.below B3.out B3.out.size hxw hch)
        have hO4 := hO.keep hch.size (hch.block G hO.lt (fun e => hne e.symm))
        refine hK.out _ _ B4.out (fun hHeld => ?_)
        try simp only [Act.put, List.setIfInBounds_toArray, List.set_cons_zero, List.set_cons_succ]
        clear hK K
        clear hHeld
        refine wpAnyH_done (by kernel_rfl) ?_ _
        have hw1 := HB.out.size
        go_wp2_with fail
        go_meet
        case rel => exact ⟨xb, G, cap, rfl, hk1, hk2, hxw, hGw, hne, hXU4, Lib.hid (os_of_own hO4 (Nat.le_trans hw1 hGw) (HB.out.trans (B4.out.mono HB.out.size)) HU.out.2.2.1), B4⟩
    case rest =>
      obtain ⟨xb, G, cap, rfl, hk1, hk2, hxw, hGw, hne, HX, HOS, HBc⟩ := hcut
      go_wp2_with fail
      go_loopw [7] (fun x wr => ∃ i : Nat, i ≤ m ∧ x = .int .i64 i ∧ Hid (wr.heap[xb]? = some (.cells #[.slice (some ⟨G, 0, none⟩) N cap, .slice none 0 0, .int .i64 d.left, .bool false] 25 (0, 0))) ∧ Hid (OS wr G (perfR d.s (d.p.take i))) ∧ Hid (Below w1.heap.size w1 wr)) (fun x _ => m - (intOf x).toNat)
      case atStart => exact ⟨0, Nat.zero_le _, rfl, HX, HOS, HBc⟩
      case round =>
        clear HX HOS HBc
        obtain ⟨i, hi, rfl, HX, HOS, HB1⟩ := hrel
        have hw1 := HB.out.size
        have hzr := HB1.out.size
        have p1 := (bcells HB1.out hzw 1).trans c1
        by_cases hlt : i < m
        · obtain ⟨b, o, n, pu, L, cu, l, rfl, hb, q0, q1, HL, hL1, hL2, hL3⟩ := HO.out.penAt i (by omega)
          have hpn := penB_of (List.all_eq_true.1 HV.out.2.2.2.1 (n, l) (List.mem_of_getElem? HL.out.1))
          simp only at hpn
          obtain ⟨k, rfl⟩ : ∃ k : Nat, n = (k : Int) := ⟨n.toNat, by omega⟩
          have hkN : k < N := by omega
          have hkNi : (k : Int) < (N : Int) := by omega
          have hlti : (i : Int) < (m : Int) := by omega
          have hHBr := Lib.hid (HB.out.trans (HB1.out.mono HB.out.size))
          have q0r := (bcells hHBr.out hb _).trans q0
          have q1r := (bcells hHBr.out hb _).trans q1
          have hlen : (perfR d.s (d.p.take i)).length = N := by
            rw [(perf_eq (d.p.take i) d.s HV.out.2.2.1 (List.all_eq_true.2 fun y hy => List.all_eq_true.1 (by have := HV.out.2.2.2.1; rwa [← HV.out.2.2.2.2.1] at this) y (List.mem_of_mem_take hy))).2.2]
            exact HV.out.2.2.2.2.1
          obtain ⟨u0, g0, _⟩ := HOS.out.at' k ((perfR d.s (d.p.take i))[k]'(by omega)) (List.getElem?_eq_getElem (by omega))
          have gf := HOS.out.free k
          obtain ⟨⟨x0, x1, x2, x3⟩, hxlt, _⟩ := row4 HX.out
          have hGl := HOS.out.lt
          have HOS2 : Hid (OS (wr.setCell ⟨G, k, none⟩ (.slice pu L cu)) G (perfR d.s (d.p.take (i + 1)))) := Lib.hid (by
            rw [perfR_succ d i HL.out.1, Int.toNat_natCast]
            refine HOS.out.set k _ l (by omega) (BVx.of_new HL.out.2.2 (Nat.le_trans hw1 hGw) |>.below hHBr.out))
          have HX2 : Hid ((wr.setCell ⟨G, k, none⟩ (.slice pu L cu)).heap[xb]? = some (.cells #[.slice (some ⟨G, 0, none⟩) N cap, .slice none 0 0, .int .i64 d.left, .bool false] 25 (0, 0))) := Lib.hid (row_set HX.out (fun e => hne e.symm))
          have HB2 : Hid (Below w1.heap.size w1 (wr.setCell ⟨G, k, none⟩ (.slice pu L cu))) := Lib.hid (below_set HB1.out hGw _)
          have n1 : G ≠ w.heap.size := by omega
          have n2 : G ≠ xb := fun e => hne e.symm
          have n3 : G ≠ b := by omega
          have hiM : (i : Int) < (m : Int) := by omega
          clear q0 q1 x1 x2 x3
          go_wp2_with fail
          go_region_held3 (fun w' => w'.cell? ⟨xb, 0, none⟩ = some (.slice (some ⟨G, 0, none⟩) N cap) ∧ w'.cell? ⟨w.heap.size, 1, none⟩ = some (.slice (some ⟨b, o, none⟩) m cp) ∧ w'.cell? ⟨b, o + i * 2, none⟩ = some (.int .i64 (k : Int)) ∧ w'.cell? ⟨b, o + i * 2 + 1, none⟩ = some (.slice pu L cu)) (go_keep) (fail)
          clear x0 q0r q1r g0 gf p1
          go_wp2_with fail
          go_roundw
          case rel => exact ⟨i + 1, by omega, by go_num, HX2, Lib.hid (HOS2.out.below (drew_below (Below.refl _ _))), Lib.hid (drew_below HB2.out)⟩
          case measure => simp [intOf]; omega
        · obtain rfl : i = m := by omega
          obtain ⟨⟨x0, x1, x2, x3⟩, hxlt, xf⟩ := row4 HX.out
          have hr5 : wr.heap[w.heap.size + 1]? = some (.cells #[.slice none 0 0, .slice none 0 0, .int .i64 0, .bool false] 25 (0, 0)) := (HB1.out.block _ hz1).trans r.out
          have HR5 := Lib.hid hr5
          clear hr5
          go_wp2_with (refine dk_store rfl (.tmp 2) (.tmp 94) rfl (w.heap.size + 1) _ _ _ _ _ HR5.out rfl rfl rfl ⟨rfl, rfl, rfl, rfl⟩ ?_; rintro w5 r5 hc5)
          have hos5 := HOS.out.chgRow (R := w.heap.size + 1) (by omega) HR5.out zero_nb hc5
          have hpl := HV.out.2.2.2.2.2
          have hNl := HV.out.2.2.2.2.1
          obtain ⟨q1, q2, q3⟩ := perf_eq d.p d.s HV.out.2.2.1 (by rw [hNl]; exact HV.out.2.2.2.1)
          rw [List.take_of_length_le (by omega)] at hos5
          have hsv5 := hos5.svc (cap := cap) (by omega) (by unfold maxLen; omega)
          rw [q3, hNl] at hsv5
          have hmany : many d = (i : Int) := by unfold many; rw [if_pos h1, hpl]
          obtain ⟨e1, e2⟩ := sync_full HV.out.1 hmany hpl
          have e3 : synLeft d = -1 := by unfold synLeft; rw [if_pos h1]; exact h1
          refine bodyPost_ret (results_dk rfl _ _ _ _ _ _ _ _ rfl rfl r5.out) rfl ?_
          refine RetD.of (d' := ⟨perfR d.s d.p, [], -1, false⟩) (by rw [e1, e3, HV.out.2.1]) e2 ⟨_, _, rfl, hsv5, nil_PV _, by show W64 (-1); unfold W64; omega⟩ ?_
          exact Chg.below (HB.out.trans (HB1.out.mono HB.out.size)) (by omega) (by omega) hc5
end Go.Proofs.Ytanmhjbeookfiaa
