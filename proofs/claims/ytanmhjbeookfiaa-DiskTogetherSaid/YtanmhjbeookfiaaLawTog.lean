/-
  DiskTogether's own body: it returns true.
-/
import Derived.Test.YtanmhjbeookfiaaTog
import Derived.Test.YtanmhjbeookfiaaLawNew
namespace Go.Proofs.Ytanmhjbeookfiaa
open Go Go.RowKit
theorem wp_bs1 {o : Oper} {a : Act} {w : World} {K : Act → World → Prop} {Q : Exit → Act → World → Prop} {k : Nat} (hd' : o.dst = some k) (t : Tmp) (ho : o.op = .buildSlice 35 1 #[(0, .tmp t)]) (c : UInt8) (hx : a.tmps[t]?.getD undef = .int .u8 (c.toNat : Int))
    (h : ∀ (U : World) (g : Nat), Below w.heap.size w U → w.heap.size ≤ g → BV U (.slice (some ⟨g, 0, none⟩) 1 1) [c] → K (a.put (some k) (.slice (some ⟨g, 0, none⟩) 1 1)) U) :
    Oper.wp Try.prog o a w K Q := by
  have h1 := h (w.alloc (.cells #[byt c] 5)) w.heap.size (one_new _ _) (Nat.le_refl _) (bv_one w c)
  unfold byt at h1
  unfold Oper.wp execOp
  simp only [ho]
  go_simp
  exact h1
theorem tmod_nat (x : UInt8) (n : Nat) : (IntKind.i64.wrap (x.toNat : Int)).tmod (n : Int) = ((x.toNat % n : Nat) : Int) := by
  have hx := x.toNat_lt
  rw [show IntKind.i64.wrap (x.toNat : Int) = (x.toNat : Int) by unfold IntKind.wrap; rw [show IntKind.i64.bits = 64 from rfl]; simp; omega]
  exact (Int.ofNat_tmod _ _).symm
theorem two_boxes (w : World) (d : D) (c0 c1 : Value) (h : DV w (.agg #[c0, c1, .int .i64 d.left, .bool d.st]) d) :
    BD ((w.alloc (.cells #[c0, c1, .int .i64 d.left, .bool d.st] 25)).alloc (.cells #[c0, c1, .int .i64 d.left, .bool d.st] 25)).drew w.heap.size d ∧
    BD ((w.alloc (.cells #[c0, c1, .int .i64 d.left, .bool d.st] 25)).alloc (.cells #[c0, c1, .int .i64 d.left, .bool d.st] 25)).drew (w.heap.size + 1) d ∧
    Below w.heap.size w ((w.alloc (.cells #[c0, c1, .int .i64 d.left, .bool d.st] 25)).alloc (.cells #[c0, c1, .int .i64 d.left, .bool d.st] 25)).drew := by
  have hb : Below w.heap.size w ((w.alloc (.cells #[c0, c1, .int .i64 d.left, .bool d.st] 25)).alloc (.cells #[c0, c1, .int .i64 d.left, .bool d.st] 25)).drew := drew_below (two_below _ _ _)
  refine ⟨⟨c0, c1, ?_, h.below hb⟩, ⟨c0, c1, ?_, h.below hb⟩, hb⟩
  · show ((w.alloc _).alloc _).heap[_]? = _
    exact ((one_new (w.alloc (.cells #[c0, c1, .int .i64 d.left, .bool d.st] 25)) _).block w.heap.size (by simp)).trans (heap_alloc_new w _)
  · show ((w.alloc _).alloc _).heap[_]? = _
    have h2 := heap_alloc_new (w.alloc (.cells #[c0, c1, .int .i64 d.left, .bool d.st] 25)) (.cells #[c0, c1, .int .i64 d.left, .bool d.st] 25)
    rw [World.size_alloc] at h2
    exact h2
set_option maxRecDepth 100000 in
set_option maxHeartbeats 16000000 in
theorem lawTog (v : Value) (d : D) (sv : Value) (s : List Ac) (w : World) (h : DV w v d) (hs : AV w sv s) (hsane : ∀ w : World, Calls Try.prog 10 #[] w (Ret (.bool true) w)) :
    Calls Try.prog 8 #[v, sv] w (Ret (.bool true) w) := by
  obtain ⟨ps, N, cs, pp, M, cp, rfl, HO, hs1, hs2, hp1, hp2⟩ := h.op
  obtain ⟨pa, ca, rfl, ha1, ha2⟩ := hs.shape
  have HSN := Lib.hid hsane
  have HAV := Lib.hid hs
  clear h hsane hs
  have HF : Hid (∀ W, Below w.heap.size w W → Calls Try.prog 11 #[dval d ps N cs pp M cp] W (SomeB W)) := Lib.hid fun W hb => few_any _ d W (HO.out.below hb).dv
  have HC : Hid (∀ W, Below w.heap.size w W → Calls Try.prog 15 #[dval d ps N cs pp M cp] W (Ret (.int .i64 (chk d)) W)) := Lib.hid fun W hb => check_any _ d W (HO.out.below hb).dv
  generalize hL : s.length = L at *
  have HL := Lib.hid hL
  clear hL
  go_enter Try.func8, Try.ntmps8
  go_wp2_with fail
  refine (HSN.out _).mono ?_
  rintro e w1 ⟨rfl, hbe1⟩
  obtain ⟨c0, c1, c2, c3⟩ := boxed (Nat.lt_of_lt_of_eq (Nat.lt_succ_self _) (by simp)) hbe1
  have hz1 : w.heap.size < w1.heap.size := by have := hbe1.size; simp at this; omega
  have HB1 := Lib.hid (one_later hbe1)
  clear hbe1
  go_wp2_with fail
  refine (HF.out _ HB1.out).mono ?_
  rintro e w2 ⟨bb, rfl, hbe2⟩
  obtain ⟨d0, d1, d2, d3⟩ := cells4L hbe2 hz1 ⟨c0, c1, c2, c3⟩
  have hz2 : w.heap.size < w2.heap.size := by have := hbe2.size; omega
  have HB2 := Lib.hid (HB1.out.trans (hbe2.mono HB1.out.size))
  clear hbe2 c0 c1 c2 c3 hz1 HB1
  cases bb
  · go_wp2_with fail
    go_ret
    exact ⟨rfl, HB2.out⟩
  by_cases hL20 : 20 < L
  · have q : decide ((20 : Int) < (L : Int)) = true := decide_eq_true (by omega)
    go_wp2_with fail
    go_ret
    exact ⟨rfl, HB2.out⟩
  have hL20' : L ≤ 20 := by omega
  have q20 : decide ((20 : Int) < (L : Int)) = false := decide_eq_false (by omega)
  clear hL20
  by_cases hM0 : 0 < M
  · have q : decide ((0 : Int) < (M : Int)) = true := decide_eq_true (by omega)
    go_wp2_with fail
    go_ret
    exact ⟨rfl, HB2.out⟩
  obtain rfl : M = 0 := by omega
  clear hM0
  by_cases hN0 : N = 0
  · subst hN0
    go_wp2_with fail
    go_ret
    exact ⟨rfl, HB2.out⟩
  have hN1 : 0 < N := by omega
  have qN : ((N : Int) == 0) = false := by simpa using hN0
  cases hv : valid d
  · rw [chk_no hv] at HC
    go_wp2_with fail
    refine (HC.out _ HB2.out).mono ?_
    rintro e w3 ⟨rfl, hbe3⟩
    have HB3 := Lib.hid (HB2.out.trans (hbe3.mono HB2.out.size))
    clear hbe3
    go_wp2_with fail
    go_ret
    exact ⟨rfl, HB3.out⟩
  rw [chk_ok hv] at HC
  go_wp2_with fail
  refine (HC.out _ HB2.out).mono ?_
  rintro e w3 ⟨rfl, hbe3⟩
  obtain ⟨e0, e1, e2, e3⟩ := cells4L hbe3 hz2 ⟨d0, d1, d2, d3⟩
  have hz3 : w.heap.size < w3.heap.size := by have := hbe3.size; omega
  have HB3 := Lib.hid (HB2.out.trans (hbe3.mono HB2.out.size))
  clear hbe3 d0 d1 d2 d3 hz2 HB2 HC HF HSN
  have hst2 : d.st = true ∨ d.st = false := by cases d.st <;> simp
  rcases hst2 with hst | hst
  · go_wp2_with fail
    go_ret
    exact ⟨rfl, HB3.out⟩
  have hp0 := List.eq_nil_of_length_eq_zero HO.out.m
  have hrun := runs_true hv hst
  have hnn := HO.out.n
  have HP := Lib.hid (And.intro hrun (And.intro hp0 hnn))
  clear hp0 hrun hnn hv
  go_upto_region 5 with fail
  go_cut [5, 6] from 47 to 48 (fun s5 s6 wc => ∃ xb yb : Nat, s5 = .pointer (some ⟨xb, 0, none⟩) ∧ s6 = .pointer (some ⟨yb, 0, none⟩) ∧ w3.heap.size ≤ xb ∧ w3.heap.size ≤ yb ∧ xb ≠ yb ∧ Hid (BD wc xb d) ∧ Hid (BD wc yb d) ∧ Hid (Below w3.heap.size w3 wc))
  case first =>
    obtain ⟨k0, k1, k2⟩ := two_boxes w3 d (.slice ps N cs) (.slice pp 0 cp) (HO.out.below HB3.out).dv
    rw [hst] at k0 k1 k2
    have K0 := Lib.hid k0
    have K1 := Lib.hid k1
    have K2 := Lib.hid k2
    clear k0 k1 k2
    go_region_held3 (fun w' => w'.cell? ⟨w.heap.size, 0, none⟩ = some (.slice ps N cs) ∧ w'.cell? ⟨w.heap.size, 1, none⟩ = some (.slice pp 0 cp) ∧ w'.cell? ⟨w.heap.size, 2, none⟩ = some (.int .i64 d.left) ∧ w'.cell? ⟨w.heap.size, 3, none⟩ = some (.bool d.st)) (go_keep) (fail)
    · go_wp2_with fail
      go_meet
      case rel => exact ⟨_, _, rfl, rfl, Nat.le_refl _, by omega, by omega, K0, K1, K2⟩
    · go_wp2_with fail
      go_meet
      case rel => exact ⟨_, _, rfl, rfl, by omega, Nat.le_refl _, by omega, K1, K0, K2⟩
  case rest =>
    obtain ⟨xb, yb, rfl, rfl, hxw, hyw, hxy, HX, HY, HBc⟩ := hcut
    clear e1 e2 e3
    go_wp2_with fail
    go_loopw [7, 8] (fun e x wr => ∃ (i : Nat) (X : D) (E : Int), x = .int .i64 i ∧ e = .int .i64 E ∧ i ≤ L ∧ Hid (Pre d (wsOf N s) i X E) ∧ Hid (BD wr xb X) ∧ Hid (BD wr yb d) ∧ Hid (Below w3.heap.size w3 wr)) (fun e x _ => L - (intOf x).toNat)
    case atStart => exact ⟨0, d, 0, rfl, rfl, Nat.zero_le _, Lib.hid (pre_start HP.out.1 HP.out.2.1 _), HX, HY, HBc⟩
    case round =>
      clear HX HY HBc
      obtain ⟨i, X, E, rfl, rfl, hiL, HPRE, HX, HY, HBc⟩ := hrel
      have hwa : (wsOf N s).all (penB d.s.length) = true := by rw [HP.out.2.2]; exact ws_all hN1 s
      have hwl : (wsOf N s).length = L := by unfold wsOf; simpa using HL.out
      have HWA := Lib.hid (And.intro hwa hwl)
      clear hwa hwl
      by_cases hgo : i < L ∧ E = 0
      · obtain ⟨hlt, hE0⟩ := hgo
        · subst hE0
          have hlti : (i : Int) < (L : Int) := by omega
          obtain ⟨c, hc⟩ : ∃ c, s[i]? = some c := ⟨_, List.getElem?_eq_getElem (by rw [HL.out]; exact hlt)⟩
          have HBr := Lib.hid (HB3.out.trans (HBc.out.mono HB3.out.size))
          obtain ⟨b, o, rfl, hb, q0, q1, q2⟩ := (HAV.out.below HBr.out).at hc
          have p0 := (bcells HBc.out hz3 0).trans e0
          obtain ⟨hW0, hPn⟩ := pre_step HP.out.1 HP.out.2.2 HPRE.out hc
          have HC := Lib.hid hc
          have HPN := Lib.hid hPn
          have HW0 := Lib.hid hW0
          clear hc hPn hW0
          go_upto_region 10 with fail
          have q1' : wr.cell? ⟨b, o + i * 3 + 1, none⟩ = some (.int .u8 (c.a.toNat : Int)) := q1
          have q2' : wr.cell? ⟨b, o + i * 3 + 2, none⟩ = some (.int .u8 (c.b.toNat : Int)) := q2
          have hN0 : N ≠ 0 := by omega
          clear q0 q1 q2
          go_region_held3 (fun w' => w'.cell? ⟨b, o + i * 3 + 1, none⟩ = some (.int .u8 (c.a.toNat : Int)) ∧ w'.cell? ⟨w.heap.size, 0, none⟩ = some (.slice ps N cs)) (go_keep) (fail)
          obtain ⟨a, ha⟩ : ∃ a : Int, a = ((c.a.toNat % N : Nat) : Int) := ⟨_, rfl⟩
          rw [tmod_nat, ← ha]
          rw [← ha] at HW0 HPN
          have hXv := (pre_valid HP.out.1 HWA.out.1 HPRE.out).1
          have hZr := runs_write HW0.out
          have hZv : (writeD X a [c.b]).s.all secB = true := (valid_of (runs_of hZr).1).2.2.1
          have hX'v := (pre_valid HP.out.1 HWA.out.1 HPN.out).1
          have hYv := (valid_of (runs_of HP.out.1).1).2.2.1
          have haw : W64 a := by rw [ha]; unfold W64; have := Nat.mod_lt c.a.toNat hN1; omega
          obtain ⟨psx, Nx, csx, ppx, Mx, cpx, hrx, HOX, hx1, hx2, hx3, hx4⟩ := HX.out.open
          obtain ⟨x0, x1, x2, x3, _⟩ := row_cells hrx
          have hxl := HX.out.lt
          have HW : Hid (∀ (W : World) (bv : Value), Below wr.heap.size wr W → BV W bv [c.b] → Calls Try.prog 19 #[dval X psx Nx csx ppx Mx cpx, .int .i64 a, bv] W (RetD (writeD X a [c.b]) 0 W)) := Lib.hid fun W bv hB hb => by
            have := write_any _ X a bv [c.b] W (HOX.out.below hB).dv hb haw
            rwa [HW0.out] at this
          have HSY : Hid (∀ (u : Value) W, DV W u (writeD X a [c.b]) → Calls Try.prog 23 #[u] W (RetD (syncD (writeD X a [c.b])) (syncE (writeD X a [c.b])) W)) := Lib.hid fun u W hb => sync_any _ _ W hb
          have HXV := Lib.hid hXv
          have HZV := Lib.hid hZv
          have HX'V := Lib.hid hX'v
          have HYV := Lib.hid hYv
          clear hXv hZv hX'v hYv hZr ha
          generalize writeD X a [c.b] = Z at *
          go_wp2_with fail
          go_cut [10, 11] from 69 to 80 (fun s10 s11 wc => ∃ zb : Nat, s10 = .pointer (some ⟨zb, 0, none⟩) ∧ s11 = .int .i64 0 ∧ wr.heap.size ≤ zb ∧ Hid (BD wc zb Z) ∧ Hid (BD wc xb X) ∧ Hid (BD wc yb d) ∧ Hid (Below wr.heap.size wr wc))
          case first =>
            refine wp_region_held_drew (S := fun w' => Below wr.heap.size wr w') (by kernel_rfl) (drew_below (drew_below (Below.refl _ _))) (fun hHeld => ?_)
            have B0 := Lib.hid hHeld
            refine take_at (i := 0) (k := 70) (v := dval X psx Nx csx ppx Mx cpx) rfl rfl (by kernel_rfl) (by kernel_rfl) (by kernel_rfl) (fun _ _ _ h => h) (Or.inl ⟨by rfl, fun w' h => by have a0 := (bcells h hxl 0).trans x0; have a1 := (bcells h hxl 1).trans x1; have a2 := (bcells h hxl 2).trans x2; have a3 := (bcells h hxl 3).trans x3; go_simp⟩) hHeld ?_
            try simp only [Act.put, List.setIfInBounds_toArray, List.set_cons_zero, List.set_cons_succ]
            refine take_at (i := 1) (k := 71) (v := .int .i64 a) rfl rfl (by kernel_rfl) (by kernel_rfl) (by kernel_rfl) (fun _ _ _ h => h) (Or.inl ⟨by rfl, fun w _ => by go_simp⟩) hHeld ?_
            try simp only [Act.put, List.setIfInBounds_toArray, List.set_cons_zero, List.set_cons_succ]
            refine take_at (i := 2) (k := 72) (v := .slice (some ⟨b, o, none⟩) L ca) rfl rfl (by kernel_rfl) (by kernel_rfl) (by kernel_rfl) (fun _ _ _ h => h) (Or.inl ⟨by rfl, fun w _ => by go_simp⟩) hHeld ?_
            try simp only [Act.put, List.setIfInBounds_toArray, List.set_cons_zero, List.set_cons_succ]
            refine take_at (i := 3) (k := 73) (v := .int .i64 i) rfl rfl (by kernel_rfl) (by kernel_rfl) (by kernel_rfl) (fun _ _ _ h => h) (Or.inl ⟨by rfl, fun w _ => by go_simp⟩) hHeld ?_
            try simp only [Act.put, List.setIfInBounds_toArray, List.set_cons_zero, List.set_cons_succ]
            refine take_at (i := 4) (k := 74) (v := .pointer (some ⟨b, o + i * 3, none⟩)) rfl rfl (by kernel_rfl) (by kernel_rfl) (by kernel_rfl) (fun _ _ _ h => h) (Or.inl ⟨by rfl, fun w _ => by go_simp⟩) hHeld ?_
            try simp only [Act.put, List.setIfInBounds_toArray, List.set_cons_zero, List.set_cons_succ]
            refine take_at (i := 5) (k := 75) (v := .pointer (some ⟨b, o + i * 3 + 2, none⟩)) rfl rfl (by kernel_rfl) (by kernel_rfl) (by kernel_rfl) (fun _ _ _ h => h) (Or.inl ⟨by rfl, fun w _ => by go_simp⟩) hHeld ?_
            try simp only [Act.put, List.setIfInBounds_toArray, List.set_cons_zero, List.set_cons_succ]
            refine take_at (i := 6) (k := 76) (v := .int .u8 (c.b.toNat : Int)) rfl rfl (by kernel_rfl) (by kernel_rfl) (by kernel_rfl) (fun _ _ _ h => h) (Or.inl ⟨by rfl, fun w' h => by have a0 := (bcells h hb (o + i * 3 + 2)).trans q2'; go_simp⟩) hHeld ?_
            try simp only [Act.put, List.setIfInBounds_toArray, List.set_cons_zero, List.set_cons_succ]
            clear hHeld
            refine wpAnyH_ready (rs := [7, 12]) (by kernel_rfl) (by simp) ?_
            refine AllReadyH.cons rfl (fun K hK => ?_) (AllReadyH.cons rfl (fun K hK => ?_) AllReadyH.nil)
            · rw [if_pos (by rfl)]
              refine wp_bs1 rfl 76 rfl c.b rfl ?_
              intro U1 g huU1 hg1 hbU1
              have B1 := Lib.hid (B0.out.trans (huU1.mono B0.out.size))
              have BVB := Lib.hid hbU1
              refine hK.out _ _ B1.out (fun hHeld => ?_)
              try simp only [Act.put, List.setIfInBounds_toArray, List.set_cons_zero, List.set_cons_succ]
              clear hK K
              clear hHeld
              refine wpAnyH_ready (rs := [8, 12]) (by kernel_rfl) (by simp) ?_
              refine AllReadyH.cons rfl (fun K hK => ?_) (AllReadyH.cons rfl (fun K hK => ?_) AllReadyH.nil)
              · rw [if_pos (by rfl)]
                go_simp
                go_at_call 19
                refine (HW.out _ _ B1.out BVB.out).mono ?_
                rintro e U2 ⟨vz, rfl, hdz, hbe⟩
                obtain ⟨ps9, N9, cs9, pp9, M9, cp9, rfl, HO9, _, _, _, _⟩ := hdz.op
                have B2 := Lib.hid (B1.out.trans (hbe.mono B1.out.size))
                have HDZ := Lib.hid hdz
                have HBE := Lib.hid hbe
                clear hbe hdz
                refine hK.out _ _ B2.out (fun hHeld => ?_)
                try simp only [Act.put, List.setIfInBounds_toArray, List.set_cons_zero, List.set_cons_succ]
                clear hK K
                refine take_at (i := 9) (k := 69) (v := .tuple #[dval Z ps9 N9 cs9 pp9 M9 cp9, .int .i64 0]) rfl rfl (by kernel_rfl) (by kernel_rfl) (by kernel_rfl) (fun _ _ _ h => h) (Or.inl ⟨by rfl, fun w _ => by go_simp⟩) hHeld ?_
                try simp only [Act.put, List.setIfInBounds_toArray, List.set_cons_zero, List.set_cons_succ]
                refine take_at (i := 10) (k := 79) (v := dval Z ps9 N9 cs9 pp9 M9 cp9) rfl rfl (by kernel_rfl) (by kernel_rfl) (by kernel_rfl) (fun _ _ _ h => h) (Or.inl ⟨by rfl, fun w _ => by go_simp⟩) hHeld ?_
                try simp only [Act.put, List.setIfInBounds_toArray, List.set_cons_zero, List.set_cons_succ]
                refine take_at (i := 11) (k := 80) (v := .int .i64 0) rfl rfl (by kernel_rfl) (by kernel_rfl) (by kernel_rfl) (fun _ _ _ h => h) (Or.inl ⟨by rfl, fun w _ => by go_simp⟩) hHeld ?_
                try simp only [Act.put, List.setIfInBounds_toArray, List.set_cons_zero, List.set_cons_succ]
                clear hHeld
                refine wpAnyH_ready (rs := [12]) (by kernel_rfl) (by simp) ?_
                refine AllReadyH.cons rfl (fun K hK => ?_) AllReadyH.nil
                rw [if_pos (by rfl)]
                refine wp_al25 rfl rfl ?_
                intro U3 zb huU3 hx1 hx2 hXU3
                have B3 := Lib.hid (B2.out.trans (huU3.mono B2.out.size))
                have hzb : wr.heap.size ≤ zb := Nat.le_trans B2.out.size hx1
                have ZR := hXU3
                refine hK.out _ _ B3.out (fun hHeld => ?_)
                try simp only [Act.put, List.setIfInBounds_toArray, List.set_cons_zero, List.set_cons_succ]
                clear hK K
                clear hHeld
                refine wpAnyH_ready (rs := [13]) (by kernel_rfl) (by simp) ?_
                refine AllReadyH.cons rfl (fun K hK => ?_) AllReadyH.nil
                rw [if_pos (by rfl)]
                refine wp_st25 (.tmp 10) (.tmp 79) rfl rfl zb _ _ _ _ _ rfl rfl ZR.out rfl ⟨rfl, rfl, rfl, rfl⟩ ?_
                intro U9 hX9 hch
                have hzero := BD.zero ZR.out
                have F1 : Hid (BD U9 zb Z) := Lib.hid (hzero.stored hX9.out (HDZ.out.below huU3) HZV.out hch)
                have F2 : Hid (BD U9 xb X) := Lib.hid ((HX.out.below B3.out).other HXV.out hzero (by have := HX.out.lt; omega) hch)
                have F3 : Hid (BD U9 yb d) := Lib.hid ((HY.out.below B3.out).other HYV.out hzero (by have := HY.out.lt; omega) hch)
                have F4 : Hid (Below wr.heap.size wr U9) := Lib.hid (Chg.below B3.out B3.out.size hzb hch)
                refine hK.out _ _ F4.out (fun hHeld => ?_)
                try simp only [Act.put, List.setIfInBounds_toArray, List.set_cons_zero, List.set_cons_succ]
                clear hK K
                refine take_at (i := 14) (k := 11) (v := .int .i64 0) rfl rfl (by kernel_rfl) (by kernel_rfl) (by kernel_rfl) (fun _ _ _ h => h) (Or.inl ⟨by rfl, fun w _ => by go_simp⟩) hHeld ?_
                try simp only [Act.put, List.setIfInBounds_toArray, List.set_cons_zero, List.set_cons_succ]
                clear hHeld
                refine wpAnyH_done (by kernel_rfl) ?_ _
                go_wp2_with fail
                go_meet
                case rel => exact ⟨zb, rfl, rfl, hzb, F1, F2, F3, F4⟩
              · rw [if_pos (by rfl)]
                refine wp_al25 rfl rfl ?_
                intro U2 zb huU2 hx1 hx2 hXU2
                have B2 := Lib.hid (B1.out.trans (huU2.mono B1.out.size))
                have hzb : wr.heap.size ≤ zb := Nat.le_trans B1.out.size hx1
                have ZR := hXU2
                have BVB2 := Lib.hid (BVB.out.below huU2)
                refine hK.out _ _ B2.out (fun hHeld => ?_)
                try simp only [Act.put, List.setIfInBounds_toArray, List.set_cons_zero, List.set_cons_succ]
                clear hK K
                clear hHeld
                refine wpAnyH_ready (rs := [8]) (by kernel_rfl) (by simp) ?_
                refine AllReadyH.cons rfl (fun K hK => ?_) AllReadyH.nil
                rw [if_pos (by rfl)]
                go_simp
                go_at_call 19
                refine (HW.out _ _ B2.out BVB2.out).mono ?_
                rintro e U3 ⟨vz, rfl, hdz, hbe⟩
                obtain ⟨ps9, N9, cs9, pp9, M9, cp9, rfl, HO9, _, _, _, _⟩ := hdz.op
                have B3 := Lib.hid (B2.out.trans (hbe.mono B2.out.size))
                have HDZ := Lib.hid hdz
                have HBE := Lib.hid hbe
                clear hbe hdz
                have ZR3 := Lib.hid ((HBE.out.block zb hx2).trans ZR.out)
                refine hK.out _ _ B3.out (fun hHeld => ?_)
                try simp only [Act.put, List.setIfInBounds_toArray, List.set_cons_zero, List.set_cons_succ]
                clear hK K
                refine take_at (i := 9) (k := 69) (v := .tuple #[dval Z ps9 N9 cs9 pp9 M9 cp9, .int .i64 0]) rfl rfl (by kernel_rfl) (by kernel_rfl) (by kernel_rfl) (fun _ _ _ h => h) (Or.inl ⟨by rfl, fun w _ => by go_simp⟩) hHeld ?_
                try simp only [Act.put, List.setIfInBounds_toArray, List.set_cons_zero, List.set_cons_succ]
                refine take_at (i := 10) (k := 79) (v := dval Z ps9 N9 cs9 pp9 M9 cp9) rfl rfl (by kernel_rfl) (by kernel_rfl) (by kernel_rfl) (fun _ _ _ h => h) (Or.inl ⟨by rfl, fun w _ => by go_simp⟩) hHeld ?_
                try simp only [Act.put, List.setIfInBounds_toArray, List.set_cons_zero, List.set_cons_succ]
                refine take_at (i := 11) (k := 80) (v := .int .i64 0) rfl rfl (by kernel_rfl) (by kernel_rfl) (by kernel_rfl) (fun _ _ _ h => h) (Or.inl ⟨by rfl, fun w _ => by go_simp⟩) hHeld ?_
                try simp only [Act.put, List.setIfInBounds_toArray, List.set_cons_zero, List.set_cons_succ]
                clear hHeld
                refine wpAnyH_ready (rs := [13]) (by kernel_rfl) (by simp) ?_
                refine AllReadyH.cons rfl (fun K hK => ?_) AllReadyH.nil
                rw [if_pos (by rfl)]
                refine wp_st25 (.tmp 10) (.tmp 79) rfl rfl zb _ _ _ _ _ rfl rfl ZR3.out rfl ⟨rfl, rfl, rfl, rfl⟩ ?_
                intro U9 hX9 hch
                have hzero := BD.zero ZR3.out
                have F1 : Hid (BD U9 zb Z) := Lib.hid (hzero.stored hX9.out HDZ.out HZV.out hch)
                have F2 : Hid (BD U9 xb X) := Lib.hid ((HX.out.below B3.out).other HXV.out hzero (by have := HX.out.lt; omega) hch)
                have F3 : Hid (BD U9 yb d) := Lib.hid ((HY.out.below B3.out).other HYV.out hzero (by have := HY.out.lt; omega) hch)
                have F4 : Hid (Below wr.heap.size wr U9) := Lib.hid (Chg.below B3.out B3.out.size hzb hch)
                refine hK.out _ _ F4.out (fun hHeld => ?_)
                try simp only [Act.put, List.setIfInBounds_toArray, List.set_cons_zero, List.set_cons_succ]
                clear hK K
                refine take_at (i := 14) (k := 11) (v := .int .i64 0) rfl rfl (by kernel_rfl) (by kernel_rfl) (by kernel_rfl) (fun _ _ _ h => h) (Or.inl ⟨by rfl, fun w _ => by go_simp⟩) hHeld ?_
                try simp only [Act.put, List.setIfInBounds_toArray, List.set_cons_zero, List.set_cons_succ]
                clear hHeld
                refine wpAnyH_done (by kernel_rfl) ?_ _
                go_wp2_with fail
                go_meet
                case rel => exact ⟨zb, rfl, rfl, hzb, F1, F2, F3, F4⟩
            · rw [if_pos (by rfl)]
              refine wp_al25 rfl rfl ?_
              intro U1 zb huU1 hx1 hx2 hXU1
              have B1 := Lib.hid (B0.out.trans (huU1.mono B0.out.size))
              have hzb : wr.heap.size ≤ zb := Nat.le_trans B0.out.size hx1
              have ZR := hXU1
              refine hK.out _ _ B1.out (fun hHeld => ?_)
              try simp only [Act.put, List.setIfInBounds_toArray, List.set_cons_zero, List.set_cons_succ]
              clear hK K
              clear hHeld
              refine wpAnyH_ready (rs := [7]) (by kernel_rfl) (by simp) ?_
              refine AllReadyH.cons rfl (fun K hK => ?_) AllReadyH.nil
              rw [if_pos (by rfl)]
              refine wp_bs1 rfl 76 rfl c.b rfl ?_
              intro U2 g huU2 hg1 hbU2
              have B2 := Lib.hid (B1.out.trans (huU2.mono B1.out.size))
              have BVB := Lib.hid hbU2
              have hx3 : zb < U2.heap.size := Nat.lt_of_lt_of_le hx2 huU2.size
              have ZR2 := Lib.hid ((huU2.block zb hx2).trans ZR.out)
              refine hK.out _ _ B2.out (fun hHeld => ?_)
              try simp only [Act.put, List.setIfInBounds_toArray, List.set_cons_zero, List.set_cons_succ]
              clear hK K
              clear hHeld
              refine wpAnyH_ready (rs := [8]) (by kernel_rfl) (by simp) ?_
              refine AllReadyH.cons rfl (fun K hK => ?_) AllReadyH.nil
              rw [if_pos (by rfl)]
              go_simp
              go_at_call 19
              refine (HW.out _ _ B2.out BVB.out).mono ?_
              rintro e U3 ⟨vz, rfl, hdz, hbe⟩
              obtain ⟨ps9, N9, cs9, pp9, M9, cp9, rfl, HO9, _, _, _, _⟩ := hdz.op
              have B3 := Lib.hid (B2.out.trans (hbe.mono B2.out.size))
              have HDZ := Lib.hid hdz
              have HBE := Lib.hid hbe
              clear hbe hdz
              have ZR3 := Lib.hid ((HBE.out.block zb hx3).trans ZR2.out)
              refine hK.out _ _ B3.out (fun hHeld => ?_)
              try simp only [Act.put, List.setIfInBounds_toArray, List.set_cons_zero, List.set_cons_succ]
              clear hK K
              refine take_at (i := 9) (k := 69) (v := .tuple #[dval Z ps9 N9 cs9 pp9 M9 cp9, .int .i64 0]) rfl rfl (by kernel_rfl) (by kernel_rfl) (by kernel_rfl) (fun _ _ _ h => h) (Or.inl ⟨by rfl, fun w _ => by go_simp⟩) hHeld ?_
              try simp only [Act.put, List.setIfInBounds_toArray, List.set_cons_zero, List.set_cons_succ]
              refine take_at (i := 10) (k := 79) (v := dval Z ps9 N9 cs9 pp9 M9 cp9) rfl rfl (by kernel_rfl) (by kernel_rfl) (by kernel_rfl) (fun _ _ _ h => h) (Or.inl ⟨by rfl, fun w _ => by go_simp⟩) hHeld ?_
              try simp only [Act.put, List.setIfInBounds_toArray, List.set_cons_zero, List.set_cons_succ]
              refine take_at (i := 11) (k := 80) (v := .int .i64 0) rfl rfl (by kernel_rfl) (by kernel_rfl) (by kernel_rfl) (fun _ _ _ h => h) (Or.inl ⟨by rfl, fun w _ => by go_simp⟩) hHeld ?_
              try simp only [Act.put, List.setIfInBounds_toArray, List.set_cons_zero, List.set_cons_succ]
              clear hHeld
              refine wpAnyH_ready (rs := [13]) (by kernel_rfl) (by simp) ?_
              refine AllReadyH.cons rfl (fun K hK => ?_) AllReadyH.nil
              rw [if_pos (by rfl)]
              refine wp_st25 (.tmp 10) (.tmp 79) rfl rfl zb _ _ _ _ _ rfl rfl ZR3.out rfl ⟨rfl, rfl, rfl, rfl⟩ ?_
              intro U9 hX9 hch
              have hzero := BD.zero ZR3.out
              have F1 : Hid (BD U9 zb Z) := Lib.hid (hzero.stored hX9.out HDZ.out HZV.out hch)
              have F2 : Hid (BD U9 xb X) := Lib.hid ((HX.out.below B3.out).other HXV.out hzero (by have := HX.out.lt; omega) hch)
              have F3 : Hid (BD U9 yb d) := Lib.hid ((HY.out.below B3.out).other HYV.out hzero (by have := HY.out.lt; omega) hch)
              have F4 : Hid (Below wr.heap.size wr U9) := Lib.hid (Chg.below B3.out B3.out.size hzb hch)
              refine hK.out _ _ F4.out (fun hHeld => ?_)
              try simp only [Act.put, List.setIfInBounds_toArray, List.set_cons_zero, List.set_cons_succ]
              clear hK K
              refine take_at (i := 14) (k := 11) (v := .int .i64 0) rfl rfl (by kernel_rfl) (by kernel_rfl) (by kernel_rfl) (fun _ _ _ h => h) (Or.inl ⟨by rfl, fun w _ => by go_simp⟩) hHeld ?_
              try simp only [Act.put, List.setIfInBounds_toArray, List.set_cons_zero, List.set_cons_succ]
              clear hHeld
              refine wpAnyH_done (by kernel_rfl) ?_ _
              go_wp2_with fail
              go_meet
              case rel => exact ⟨zb, rfl, rfl, hzb, F1, F2, F3, F4⟩
          case rest =>
            obtain ⟨zb, rfl, rfl, hzb, HZ, HX2, HY2, HBc2⟩ := hcut
            obtain ⟨psz, Nz, csz, ppz, Mz, cpz, hrz, HOZ, hz1', hz2', hz3', hz4'⟩ := HZ.out.open
            obtain ⟨z0, z1, z2, z3, _⟩ := row_cells hrz
            obtain ⟨v0, v1, hrx2, hdx2⟩ := HX2.out
            have HRX := Lib.hid hrx2
            clear hrx2 hdx2 x0 x1 x2 x3 q1' q2' p0
            go_wp2_with fail
            refine (HSY.out _ _ HOZ.out.dv).mono ?_
            rintro e wd ⟨v9, rfl, hdv9, hbe9⟩
            obtain ⟨ps9, N9, cs9, pp9, M9, cp9, rfl, HO9, hs91, hs92, hp91, hp92⟩ := hdv9.op
            have HBE := Lib.hid hbe9
            have HRX2 := Lib.hid ((HBE.out.block xb HX2.out.lt).trans HRX.out)
            clear hbe9 hdv9 z0 z1 z2 z3
            go_wp2_with (refine dk_store rfl (.tmp 5) (.tmp 86) rfl xb _ _ _ _ _ HRX2.out rfl rfl rfl ⟨rfl, rfl, rfl, rfl⟩ ?_; rintro we re hce)
            have hX3 := HX2.out.below HBE.out
            have G1 : Hid (BD we xb (syncD Z)) := Lib.hid (hX3.stored re.out HO9.out.dv HX'V.out hce)
            have G2 : Hid (BD we yb d) := Lib.hid ((HY2.out.below HBE.out).other HYV.out hX3 (fun e => hxy e.symm) hce)
            have G3 : Hid (Below w3.heap.size w3 we) := Lib.hid (Chg.below (HBc.out.trans ((HBc2.out.trans (HBE.out.mono HBc2.out.size)).mono HBc.out.size)) (by have := HBc.out.size; have := HBc2.out.size; have := HBE.out.size; omega) hxw hce)
            have hi1 : i + 1 ≤ L := hlt
            go_roundw
            case rel => exact ⟨i + 1, syncD Z, syncE Z, by go_num, rfl, hi1, HPN, G1, G2, G3⟩
            case measure => simp [intOf]; omega
      · have hXv := (pre_valid HP.out.1 HWA.out.1 HPRE.out).1
        have hYv := (valid_of (runs_of HP.out.1).1).2.2.1
        have hend := pre_end HP.out.1 HWA.out.1 (by rw [HWA.out.2]; exact hL20') HPRE.out (fun e => by rw [HWA.out.2]; by_cases hi : i < L; exact absurd ⟨hi, e⟩ hgo; omega)
        have HEND := Lib.hid hend
        have HXV := Lib.hid hXv
        have hE : (E == E) = true := by simp
        have hcase : ¬ i < L ∨ (i < L ∧ (E == 0) = false) := by
          by_cases hi : i < L
          · exact .inr ⟨hi, by simpa using fun e => hgo ⟨hi, e⟩⟩
          · exact .inl hi
        have hy0 : yOf d (wsOf N s) 0 = d := by
          have h1 := HP.out.2.1
          unfold yOf
          cases d
          simp only at h1
          subst h1
          rfl
        have HY0 : Hid (BD wr yb (yOf d (wsOf N s) 0)) := Lib.hid (by rw [hy0]; exact HY.out)
        clear hgo hXv hYv hend hy0
        rcases hcase with hge | ⟨hlt, qE⟩
        all_goals
          go_wp2_with fail
          go_loopw [12] (fun x wr => ∃ j : Nat, x = .int .i64 j ∧ j ≤ L ∧ Hid (BD wr xb X) ∧ Hid (BD wr yb (yOf d (wsOf N s) j)) ∧ Hid (Below w3.heap.size w3 wr)) (fun x _ => L - (intOf x).toNat)
          case atStart => exact ⟨0, rfl, Nat.zero_le _, HX, HY0, HBc⟩
          case round =>
            clear HX HY HY0 HBc
            obtain ⟨j, rfl, hjL, HX, HY, HBc⟩ := hrel
            by_cases hlj : j < L
            · have hltj : (j : Int) < (L : Int) := by omega
              obtain ⟨c, hc⟩ : ∃ c, s[j]? = some c := ⟨_, List.getElem?_eq_getElem (by rw [HL.out]; exact hlj)⟩
              have HBr := Lib.hid (HB3.out.trans (HBc.out.mono HB3.out.size))
              obtain ⟨b, o, rfl, hb, q0, q1, q2⟩ := (HAV.out.below HBr.out).at hc
              have p0 := (bcells HBc.out hz3 0).trans e0
              obtain ⟨hW0, hWn⟩ := y_step HP.out.1 HP.out.2.2 (by rw [HL.out]; exact hL20') hc
              obtain ⟨a, ha⟩ : ∃ a : Int, a = ((c.a.toNat % N : Nat) : Int) := ⟨_, rfl⟩
              rw [← ha] at hW0 hWn
              have haw : W64 a := by rw [ha]; unfold W64; have := Nat.mod_lt c.a.toNat hN1; omega
              have q1' : wr.cell? ⟨b, o + j * 3 + 1, none⟩ = some (.int .u8 (c.a.toNat : Int)) := q1
              have q2' : wr.cell? ⟨b, o + j * 3 + 2, none⟩ = some (.int .u8 (c.b.toNat : Int)) := q2
              have hN0 : N ≠ 0 := by omega
              obtain ⟨psx, Nx, csx, ppx, Mx, cpx, hrx, HOX, hx1, hx2, hx3, hx4⟩ := HY.out.open
              obtain ⟨x0, x1, x2, x3, _⟩ := row_cells hrx
              have hxl := HY.out.lt
              have HW : Hid (∀ (W : World) (bv : Value), Below wr.heap.size wr W → BV W bv [c.b] → Calls Try.prog 19 #[dval (yOf d (wsOf N s) j) psx Nx csx ppx Mx cpx, .int .i64 a, bv] W (RetD (yOf d (wsOf N s) (j + 1)) 0 W)) := Lib.hid fun W bv hB hb => by
                have := write_any _ _ a bv [c.b] W (HOX.out.below hB).dv hb haw
                rwa [hW0, hWn] at this
              have HYV : Hid ((yOf d (wsOf N s) j).s.all secB = true) := Lib.hid (y_valid HP.out.1 _ _)
              have HZV : Hid ((yOf d (wsOf N s) (j + 1)).s.all secB = true) := Lib.hid (y_valid HP.out.1 _ _)
              generalize yOf d (wsOf N s) j = Y at *
              generalize hZ : yOf d (wsOf N s) (j + 1) = Z at *
              clear hc q0 q1 q2 hW0 hWn hrx
              go_wp2_with fail
              go_cut [13, 14] from 94 to 114 (fun s13 s14 wc => ∃ zb : Nat, s13 = .pointer (some ⟨zb, 0, none⟩) ∧ s14 = .int .i64 0 ∧ wr.heap.size ≤ zb ∧ Hid (BD wc zb Z) ∧ Hid (BD wc xb X) ∧ Hid (BD wc yb Y) ∧ Hid (Below wr.heap.size wr wc))
              case first =>
                have hwr : w.heap.size < wr.heap.size := by have := HBc.out.size; omega
                refine wp_region_held_drew (S := fun w' => Below wr.heap.size wr w') (by kernel_rfl) (drew_below (Below.refl _ _)) (fun hHeld => ?_)
                have B0 := Lib.hid hHeld
                refine take_at (i := 0) (k := 95) (v := dval Y psx Nx csx ppx Mx cpx) rfl rfl (by kernel_rfl) (by kernel_rfl) (by kernel_rfl) (fun _ _ _ h => h) (Or.inl ⟨by rfl, fun w' h => by have a0 := (bcells h hxl 0).trans x0; have a1 := (bcells h hxl 1).trans x1; have a2 := (bcells h hxl 2).trans x2; have a3 := (bcells h hxl 3).trans x3; go_simp⟩) hHeld ?_
                try simp only [Act.put, List.setIfInBounds_toArray, List.set_cons_zero, List.set_cons_succ]
                refine take_at (i := 1) (k := 96) (v := .slice (some ⟨b, o, none⟩) L ca) rfl rfl (by kernel_rfl) (by kernel_rfl) (by kernel_rfl) (fun _ _ _ h => h) (Or.inl ⟨by rfl, fun w _ => by go_simp⟩) hHeld ?_
                try simp only [Act.put, List.setIfInBounds_toArray, List.set_cons_zero, List.set_cons_succ]
                refine take_at (i := 2) (k := 97) (v := .int .i64 j) rfl rfl (by kernel_rfl) (by kernel_rfl) (by kernel_rfl) (fun _ _ _ h => h) (Or.inl ⟨by rfl, fun w _ => by go_simp⟩) hHeld ?_
                try simp only [Act.put, List.setIfInBounds_toArray, List.set_cons_zero, List.set_cons_succ]
                refine take_at (i := 3) (k := 98) (v := .pointer (some ⟨b, o + j * 3, none⟩)) rfl rfl (by kernel_rfl) (by kernel_rfl) (by kernel_rfl) (fun _ _ _ h => h) (Or.inl ⟨by rfl, fun w _ => by go_simp⟩) hHeld ?_
                try simp only [Act.put, List.setIfInBounds_toArray, List.set_cons_zero, List.set_cons_succ]
                refine take_at (i := 4) (k := 99) (v := .pointer (some ⟨b, o + j * 3 + 1, none⟩)) rfl rfl (by kernel_rfl) (by kernel_rfl) (by kernel_rfl) (fun _ _ _ h => h) (Or.inl ⟨by rfl, fun w _ => by go_simp⟩) hHeld ?_
                try simp only [Act.put, List.setIfInBounds_toArray, List.set_cons_zero, List.set_cons_succ]
                refine take_at (i := 5) (k := 100) (v := .int .u8 (c.a.toNat : Int)) rfl rfl (by kernel_rfl) (by kernel_rfl) (by kernel_rfl) (fun _ _ _ h => h) (Or.inl ⟨by rfl, fun w' h => by have a0 := (bcells h hb (o + j * 3 + 1)).trans q1'; go_simp⟩) hHeld ?_
                try simp only [Act.put, List.setIfInBounds_toArray, List.set_cons_zero, List.set_cons_succ]
                refine take_at (i := 6) (k := 101) (v := .int .i64 (IntKind.i64.wrap (c.a.toNat : Int))) rfl rfl (by kernel_rfl) (by kernel_rfl) (by kernel_rfl) (fun _ _ _ h => h) (Or.inl ⟨by rfl, fun w _ => by go_simp⟩) hHeld ?_
                try simp only [Act.put, List.setIfInBounds_toArray, List.set_cons_zero, List.set_cons_succ]
                refine take_at (i := 7) (k := 102) (v := .pointer (some ⟨w.heap.size, 0, none⟩)) rfl rfl (by kernel_rfl) (by kernel_rfl) (by kernel_rfl) (fun _ _ _ h => h) (Or.inl ⟨by rfl, fun w _ => by go_simp⟩) hHeld ?_
                try simp only [Act.put, List.setIfInBounds_toArray, List.set_cons_zero, List.set_cons_succ]
                refine take_at (i := 8) (k := 103) (v := .slice ps N cs) rfl rfl (by kernel_rfl) (by kernel_rfl) (by kernel_rfl) (fun _ _ _ h => h) (Or.inl ⟨by rfl, fun w' h => by have a0 := (bcells h hwr 0).trans p0; go_simp⟩) hHeld ?_
                try simp only [Act.put, List.setIfInBounds_toArray, List.set_cons_zero, List.set_cons_succ]
                refine take_at (i := 9) (k := 104) (v := .int .i64 N) rfl rfl (by kernel_rfl) (by kernel_rfl) (by kernel_rfl) (fun _ _ _ h => h) (Or.inl ⟨by rfl, fun w _ => by go_simp⟩) hHeld ?_
                try simp only [Act.put, List.setIfInBounds_toArray, List.set_cons_zero, List.set_cons_succ]
                refine take_at (i := 10) (k := 105) (v := .int .i64 ((IntKind.i64.wrap (c.a.toNat : Int)).tmod (N : Int))) rfl rfl (by kernel_rfl) (by kernel_rfl) (by kernel_rfl) (fun _ _ _ h => h) (Or.inl ⟨by rfl, fun w _ => by go_simp⟩) hHeld ?_
                try simp only [Act.put, List.setIfInBounds_toArray, List.set_cons_zero, List.set_cons_succ]
                rw [tmod_nat, ← ha]
                clear ha
                refine take_at (i := 11) (k := 106) (v := .slice (some ⟨b, o, none⟩) L ca) rfl rfl (by kernel_rfl) (by kernel_rfl) (by kernel_rfl) (fun _ _ _ h => h) (Or.inl ⟨by rfl, fun w _ => by go_simp⟩) hHeld ?_
                try simp only [Act.put, List.setIfInBounds_toArray, List.set_cons_zero, List.set_cons_succ]
                refine take_at (i := 12) (k := 107) (v := .int .i64 j) rfl rfl (by kernel_rfl) (by kernel_rfl) (by kernel_rfl) (fun _ _ _ h => h) (Or.inl ⟨by rfl, fun w _ => by go_simp⟩) hHeld ?_
                try simp only [Act.put, List.setIfInBounds_toArray, List.set_cons_zero, List.set_cons_succ]
                refine take_at (i := 13) (k := 108) (v := .pointer (some ⟨b, o + j * 3, none⟩)) rfl rfl (by kernel_rfl) (by kernel_rfl) (by kernel_rfl) (fun _ _ _ h => h) (Or.inl ⟨by rfl, fun w _ => by go_simp⟩) hHeld ?_
                try simp only [Act.put, List.setIfInBounds_toArray, List.set_cons_zero, List.set_cons_succ]
                refine take_at (i := 14) (k := 109) (v := .pointer (some ⟨b, o + j * 3 + 2, none⟩)) rfl rfl (by kernel_rfl) (by kernel_rfl) (by kernel_rfl) (fun _ _ _ h => h) (Or.inl ⟨by rfl, fun w _ => by go_simp⟩) hHeld ?_
                try simp only [Act.put, List.setIfInBounds_toArray, List.set_cons_zero, List.set_cons_succ]
                refine take_at (i := 15) (k := 110) (v := .int .u8 (c.b.toNat : Int)) rfl rfl (by kernel_rfl) (by kernel_rfl) (by kernel_rfl) (fun _ _ _ h => h) (Or.inl ⟨by rfl, fun w' h => by have a0 := (bcells h hb (o + j * 3 + 2)).trans q2'; go_simp⟩) hHeld ?_
                try simp only [Act.put, List.setIfInBounds_toArray, List.set_cons_zero, List.set_cons_succ]
                clear hHeld
                refine wpAnyH_ready (rs := [16, 21]) (by kernel_rfl) (by simp) ?_
                refine AllReadyH.cons rfl (fun K hK => ?_) (AllReadyH.cons rfl (fun K hK => ?_) AllReadyH.nil)
                · rw [if_pos (by rfl)]
                  refine wp_bs1 rfl 110 rfl c.b rfl ?_
                  intro U1 g huU1 hg1 hbU1
                  have B1 := Lib.hid (B0.out.trans (huU1.mono B0.out.size))
                  have BVB := Lib.hid hbU1
                  refine hK.out _ _ B1.out (fun hHeld => ?_)
                  try simp only [Act.put, List.setIfInBounds_toArray, List.set_cons_zero, List.set_cons_succ]
                  clear hK K
                  clear hHeld
                  refine wpAnyH_ready (rs := [17, 21]) (by kernel_rfl) (by simp) ?_
                  refine AllReadyH.cons rfl (fun K hK => ?_) (AllReadyH.cons rfl (fun K hK => ?_) AllReadyH.nil)
                  · rw [if_pos (by rfl)]
                    go_simp
                    go_at_call 19
                    refine (HW.out _ _ B1.out BVB.out).mono ?_
                    rintro e U2 ⟨vz, rfl, hdz, hbe⟩
                    obtain ⟨ps9, N9, cs9, pp9, M9, cp9, rfl, HO9, _, _, _, _⟩ := hdz.op
                    have B2 := Lib.hid (B1.out.trans (hbe.mono B1.out.size))
                    have HDZ := Lib.hid hdz
                    have HBE := Lib.hid hbe
                    clear hbe hdz
                    refine hK.out _ _ B2.out (fun hHeld => ?_)
                    try simp only [Act.put, List.setIfInBounds_toArray, List.set_cons_zero, List.set_cons_succ]
                    clear hK K
                    refine take_at (i := 18) (k := 94) (v := .tuple #[dval Z ps9 N9 cs9 pp9 M9 cp9, .int .i64 0]) rfl rfl (by kernel_rfl) (by kernel_rfl) (by kernel_rfl) (fun _ _ _ h => h) (Or.inl ⟨by rfl, fun w _ => by go_simp⟩) hHeld ?_
                    try simp only [Act.put, List.setIfInBounds_toArray, List.set_cons_zero, List.set_cons_succ]
                    refine take_at (i := 19) (k := 113) (v := dval Z ps9 N9 cs9 pp9 M9 cp9) rfl rfl (by kernel_rfl) (by kernel_rfl) (by kernel_rfl) (fun _ _ _ h => h) (Or.inl ⟨by rfl, fun w _ => by go_simp⟩) hHeld ?_
                    try simp only [Act.put, List.setIfInBounds_toArray, List.set_cons_zero, List.set_cons_succ]
                    refine take_at (i := 20) (k := 114) (v := .int .i64 0) rfl rfl (by kernel_rfl) (by kernel_rfl) (by kernel_rfl) (fun _ _ _ h => h) (Or.inl ⟨by rfl, fun w _ => by go_simp⟩) hHeld ?_
                    try simp only [Act.put, List.setIfInBounds_toArray, List.set_cons_zero, List.set_cons_succ]
                    clear hHeld
                    refine wpAnyH_ready (rs := [21]) (by kernel_rfl) (by simp) ?_
                    refine AllReadyH.cons rfl (fun K hK => ?_) AllReadyH.nil
                    rw [if_pos (by rfl)]
                    refine wp_al25 rfl rfl ?_
                    intro U3 zb huU3 hx1 hx2 hXU3
                    have B3 := Lib.hid (B2.out.trans (huU3.mono B2.out.size))
                    have hzb : wr.heap.size ≤ zb := Nat.le_trans B2.out.size hx1
                    have ZR := hXU3
                    refine hK.out _ _ B3.out (fun hHeld => ?_)
                    try simp only [Act.put, List.setIfInBounds_toArray, List.set_cons_zero, List.set_cons_succ]
                    clear hK K
                    clear hHeld
                    refine wpAnyH_ready (rs := [22]) (by kernel_rfl) (by simp) ?_
                    refine AllReadyH.cons rfl (fun K hK => ?_) AllReadyH.nil
                    rw [if_pos (by rfl)]
                    refine wp_st25 (.tmp 13) (.tmp 113) rfl rfl zb _ _ _ _ _ rfl rfl ZR.out rfl ⟨rfl, rfl, rfl, rfl⟩ ?_
                    intro U9 hX9 hch
                    have hzero := BD.zero ZR.out
                    have F1 : Hid (BD U9 zb Z) := Lib.hid (hzero.stored hX9.out (HDZ.out.below huU3) HZV.out hch)
                    have F2 : Hid (BD U9 xb X) := Lib.hid ((HX.out.below B3.out).other HXV.out hzero (by have := HX.out.lt; omega) hch)
                    have F3 : Hid (BD U9 yb Y) := Lib.hid ((HY.out.below B3.out).other HYV.out hzero (by have := HY.out.lt; omega) hch)
                    have F4 : Hid (Below wr.heap.size wr U9) := Lib.hid (Chg.below B3.out B3.out.size hzb hch)
                    refine hK.out _ _ F4.out (fun hHeld => ?_)
                    try simp only [Act.put, List.setIfInBounds_toArray, List.set_cons_zero, List.set_cons_succ]
                    clear hK K
                    refine take_at (i := 23) (k := 14) (v := .int .i64 0) rfl rfl (by kernel_rfl) (by kernel_rfl) (by kernel_rfl) (fun _ _ _ h => h) (Or.inl ⟨by rfl, fun w _ => by go_simp⟩) hHeld ?_
                    try simp only [Act.put, List.setIfInBounds_toArray, List.set_cons_zero, List.set_cons_succ]
                    clear hHeld
                    refine wpAnyH_done (by kernel_rfl) ?_ _
                    go_wp2_with fail
                    go_meet
                    case rel => exact ⟨zb, rfl, rfl, hzb, F1, F2, F3, F4⟩
                  · rw [if_pos (by rfl)]
                    refine wp_al25 rfl rfl ?_
                    intro U2 zb huU2 hx1 hx2 hXU2
                    have B2 := Lib.hid (B1.out.trans (huU2.mono B1.out.size))
                    have hzb : wr.heap.size ≤ zb := Nat.le_trans B1.out.size hx1
                    have ZR := hXU2
                    have BVB2 := Lib.hid (BVB.out.below huU2)
                    refine hK.out _ _ B2.out (fun hHeld => ?_)
                    try simp only [Act.put, List.setIfInBounds_toArray, List.set_cons_zero, List.set_cons_succ]
                    clear hK K
                    clear hHeld
                    refine wpAnyH_ready (rs := [17]) (by kernel_rfl) (by simp) ?_
                    refine AllReadyH.cons rfl (fun K hK => ?_) AllReadyH.nil
                    rw [if_pos (by rfl)]
                    go_simp
                    go_at_call 19
                    refine (HW.out _ _ B2.out BVB2.out).mono ?_
                    rintro e U3 ⟨vz, rfl, hdz, hbe⟩
                    obtain ⟨ps9, N9, cs9, pp9, M9, cp9, rfl, HO9, _, _, _, _⟩ := hdz.op
                    have B3 := Lib.hid (B2.out.trans (hbe.mono B2.out.size))
                    have HDZ := Lib.hid hdz
                    have HBE := Lib.hid hbe
                    clear hbe hdz
                    have ZR3 := Lib.hid ((HBE.out.block zb hx2).trans ZR.out)
                    refine hK.out _ _ B3.out (fun hHeld => ?_)
                    try simp only [Act.put, List.setIfInBounds_toArray, List.set_cons_zero, List.set_cons_succ]
                    clear hK K
                    refine take_at (i := 18) (k := 94) (v := .tuple #[dval Z ps9 N9 cs9 pp9 M9 cp9, .int .i64 0]) rfl rfl (by kernel_rfl) (by kernel_rfl) (by kernel_rfl) (fun _ _ _ h => h) (Or.inl ⟨by rfl, fun w _ => by go_simp⟩) hHeld ?_
                    try simp only [Act.put, List.setIfInBounds_toArray, List.set_cons_zero, List.set_cons_succ]
                    refine take_at (i := 19) (k := 113) (v := dval Z ps9 N9 cs9 pp9 M9 cp9) rfl rfl (by kernel_rfl) (by kernel_rfl) (by kernel_rfl) (fun _ _ _ h => h) (Or.inl ⟨by rfl, fun w _ => by go_simp⟩) hHeld ?_
                    try simp only [Act.put, List.setIfInBounds_toArray, List.set_cons_zero, List.set_cons_succ]
                    refine take_at (i := 20) (k := 114) (v := .int .i64 0) rfl rfl (by kernel_rfl) (by kernel_rfl) (by kernel_rfl) (fun _ _ _ h => h) (Or.inl ⟨by rfl, fun w _ => by go_simp⟩) hHeld ?_
                    try simp only [Act.put, List.setIfInBounds_toArray, List.set_cons_zero, List.set_cons_succ]
                    clear hHeld
                    refine wpAnyH_ready (rs := [22]) (by kernel_rfl) (by simp) ?_
                    refine AllReadyH.cons rfl (fun K hK => ?_) AllReadyH.nil
                    rw [if_pos (by rfl)]
                    refine wp_st25 (.tmp 13) (.tmp 113) rfl rfl zb _ _ _ _ _ rfl rfl ZR3.out rfl ⟨rfl, rfl, rfl, rfl⟩ ?_
                    intro U9 hX9 hch
                    have hzero := BD.zero ZR3.out
                    have F1 : Hid (BD U9 zb Z) := Lib.hid (hzero.stored hX9.out HDZ.out HZV.out hch)
                    have F2 : Hid (BD U9 xb X) := Lib.hid ((HX.out.below B3.out).other HXV.out hzero (by have := HX.out.lt; omega) hch)
                    have F3 : Hid (BD U9 yb Y) := Lib.hid ((HY.out.below B3.out).other HYV.out hzero (by have := HY.out.lt; omega) hch)
                    have F4 : Hid (Below wr.heap.size wr U9) := Lib.hid (Chg.below B3.out B3.out.size hzb hch)
                    refine hK.out _ _ F4.out (fun hHeld => ?_)
                    try simp only [Act.put, List.setIfInBounds_toArray, List.set_cons_zero, List.set_cons_succ]
                    clear hK K
                    refine take_at (i := 23) (k := 14) (v := .int .i64 0) rfl rfl (by kernel_rfl) (by kernel_rfl) (by kernel_rfl) (fun _ _ _ h => h) (Or.inl ⟨by rfl, fun w _ => by go_simp⟩) hHeld ?_
                    try simp only [Act.put, List.setIfInBounds_toArray, List.set_cons_zero, List.set_cons_succ]
                    clear hHeld
                    refine wpAnyH_done (by kernel_rfl) ?_ _
                    go_wp2_with fail
                    go_meet
                    case rel => exact ⟨zb, rfl, rfl, hzb, F1, F2, F3, F4⟩
                · rw [if_pos (by rfl)]
                  refine wp_al25 rfl rfl ?_
                  intro U1 zb huU1 hx1 hx2 hXU1
                  have B1 := Lib.hid (B0.out.trans (huU1.mono B0.out.size))
                  have hzb : wr.heap.size ≤ zb := Nat.le_trans B0.out.size hx1
                  have ZR := hXU1
                  refine hK.out _ _ B1.out (fun hHeld => ?_)
                  try simp only [Act.put, List.setIfInBounds_toArray, List.set_cons_zero, List.set_cons_succ]
                  clear hK K
                  clear hHeld
                  refine wpAnyH_ready (rs := [16]) (by kernel_rfl) (by simp) ?_
                  refine AllReadyH.cons rfl (fun K hK => ?_) AllReadyH.nil
                  rw [if_pos (by rfl)]
                  refine wp_bs1 rfl 110 rfl c.b rfl ?_
                  intro U2 g huU2 hg1 hbU2
                  have B2 := Lib.hid (B1.out.trans (huU2.mono B1.out.size))
                  have BVB := Lib.hid hbU2
                  have hx3 : zb < U2.heap.size := Nat.lt_of_lt_of_le hx2 huU2.size
                  have ZR2 := Lib.hid ((huU2.block zb hx2).trans ZR.out)
                  refine hK.out _ _ B2.out (fun hHeld => ?_)
                  try simp only [Act.put, List.setIfInBounds_toArray, List.set_cons_zero, List.set_cons_succ]
                  clear hK K
                  clear hHeld
                  refine wpAnyH_ready (rs := [17]) (by kernel_rfl) (by simp) ?_
                  refine AllReadyH.cons rfl (fun K hK => ?_) AllReadyH.nil
                  rw [if_pos (by rfl)]
                  go_simp
                  go_at_call 19
                  refine (HW.out _ _ B2.out BVB.out).mono ?_
                  rintro e U3 ⟨vz, rfl, hdz, hbe⟩
                  obtain ⟨ps9, N9, cs9, pp9, M9, cp9, rfl, HO9, _, _, _, _⟩ := hdz.op
                  have B3 := Lib.hid (B2.out.trans (hbe.mono B2.out.size))
                  have HDZ := Lib.hid hdz
                  have HBE := Lib.hid hbe
                  clear hbe hdz
                  have ZR3 := Lib.hid ((HBE.out.block zb hx3).trans ZR2.out)
                  refine hK.out _ _ B3.out (fun hHeld => ?_)
                  try simp only [Act.put, List.setIfInBounds_toArray, List.set_cons_zero, List.set_cons_succ]
                  clear hK K
                  refine take_at (i := 18) (k := 94) (v := .tuple #[dval Z ps9 N9 cs9 pp9 M9 cp9, .int .i64 0]) rfl rfl (by kernel_rfl) (by kernel_rfl) (by kernel_rfl) (fun _ _ _ h => h) (Or.inl ⟨by rfl, fun w _ => by go_simp⟩) hHeld ?_
                  try simp only [Act.put, List.setIfInBounds_toArray, List.set_cons_zero, List.set_cons_succ]
                  refine take_at (i := 19) (k := 113) (v := dval Z ps9 N9 cs9 pp9 M9 cp9) rfl rfl (by kernel_rfl) (by kernel_rfl) (by kernel_rfl) (fun _ _ _ h => h) (Or.inl ⟨by rfl, fun w _ => by go_simp⟩) hHeld ?_
                  try simp only [Act.put, List.setIfInBounds_toArray, List.set_cons_zero, List.set_cons_succ]
                  refine take_at (i := 20) (k := 114) (v := .int .i64 0) rfl rfl (by kernel_rfl) (by kernel_rfl) (by kernel_rfl) (fun _ _ _ h => h) (Or.inl ⟨by rfl, fun w _ => by go_simp⟩) hHeld ?_
                  try simp only [Act.put, List.setIfInBounds_toArray, List.set_cons_zero, List.set_cons_succ]
                  clear hHeld
                  refine wpAnyH_ready (rs := [22]) (by kernel_rfl) (by simp) ?_
                  refine AllReadyH.cons rfl (fun K hK => ?_) AllReadyH.nil
                  rw [if_pos (by rfl)]
                  refine wp_st25 (.tmp 13) (.tmp 113) rfl rfl zb _ _ _ _ _ rfl rfl ZR3.out rfl ⟨rfl, rfl, rfl, rfl⟩ ?_
                  intro U9 hX9 hch
                  have hzero := BD.zero ZR3.out
                  have F1 : Hid (BD U9 zb Z) := Lib.hid (hzero.stored hX9.out HDZ.out HZV.out hch)
                  have F2 : Hid (BD U9 xb X) := Lib.hid ((HX.out.below B3.out).other HXV.out hzero (by have := HX.out.lt; omega) hch)
                  have F3 : Hid (BD U9 yb Y) := Lib.hid ((HY.out.below B3.out).other HYV.out hzero (by have := HY.out.lt; omega) hch)
                  have F4 : Hid (Below wr.heap.size wr U9) := Lib.hid (Chg.below B3.out B3.out.size hzb hch)
                  refine hK.out _ _ F4.out (fun hHeld => ?_)
                  try simp only [Act.put, List.setIfInBounds_toArray, List.set_cons_zero, List.set_cons_succ]
                  clear hK K
                  refine take_at (i := 23) (k := 14) (v := .int .i64 0) rfl rfl (by kernel_rfl) (by kernel_rfl) (by kernel_rfl) (fun _ _ _ h => h) (Or.inl ⟨by rfl, fun w _ => by go_simp⟩) hHeld ?_
                  try simp only [Act.put, List.setIfInBounds_toArray, List.set_cons_zero, List.set_cons_succ]
                  clear hHeld
                  refine wpAnyH_done (by kernel_rfl) ?_ _
                  go_wp2_with fail
                  go_meet
                  case rel => exact ⟨zb, rfl, rfl, hzb, F1, F2, F3, F4⟩
              case rest =>
                obtain ⟨zb, rfl, rfl, hzb, HZ2, HX2, HY2, HBc2⟩ := hcut
                obtain ⟨psz, Nz, csz, ppz, Mz, cpz, hrz, HOZ, hz1', hz2', hz3', hz4'⟩ := HZ2.out.open
                obtain ⟨z0, z1, z2, z3, _⟩ := row_cells hrz
                obtain ⟨v0, v1, hrx2, hdx2⟩ := HY2.out
                have HRX := Lib.hid hrx2
                clear hrx2 hdx2 x0 x1 x2 x3 q1' q2' p0
                go_wp2_with (refine dk_store rfl (.tmp 6) (.tmp 117) rfl yb _ _ _ _ _ HRX.out rfl rfl rfl ⟨rfl, rfl, rfl, rfl⟩ ?_; rintro we re hce)
                have G1 : Hid (BD we yb Z) := Lib.hid (HY2.out.stored re.out HOZ.out.dv HZV.out hce)
                have G2 : Hid (BD we xb X) := Lib.hid (HX2.out.other HXV.out HY2.out hxy hce)
                have G3 : Hid (Below w3.heap.size w3 we) := Lib.hid (Chg.below (HBc.out.trans (HBc2.out.mono HBc.out.size)) (by have := HBc.out.size; have := HBc2.out.size; omega) hyw hce)
                have hi1 : j + 1 ≤ L := hlj
                rw [← hZ] at G1
                go_roundw
                case rel => exact ⟨j + 1, by go_num, hi1, G2, G1, G3⟩
                case measure => simp [intOf]; omega
            · obtain rfl : j = L := by omega
              have hyl : yOf d (wsOf N s) j = ⟨d.s, wsOf N s, d.left, d.st⟩ := by unfold yOf; rw [List.take_of_length_le (by rw [HWA.out.2]; exact Nat.le_refl _)]
              rw [hyl] at HY
              have HSY : Hid (∀ (u : Value) W, DV W u ⟨d.s, wsOf N s, d.left, d.st⟩ → Calls Try.prog 23 #[u] W (RetD X E W)) := Lib.hid fun u W hb => by
                have := sync_any _ _ W hb
                rwa [HEND.out.1, HEND.out.2] at this
              clear hyl HEND
              generalize (⟨d.s, wsOf N s, d.left, d.st⟩ : D) = Yf at HY HSY
              obtain ⟨psz, Nz, csz, ppz, Mz, cpz, hrz, HOZ, hz1', hz2', hz3', hz4'⟩ := HY.out.open
              obtain ⟨z0, z1, z2, z3, _⟩ := row_cells hrz
              have HRX := Lib.hid hrz
              clear hrz
              go_wp2_with fail
              refine (HSY.out _ _ HOZ.out.dv).mono ?_
              rintro e wd ⟨v9, rfl, hdv9, hbe9⟩
              obtain ⟨ps9, N9, cs9, pp9, M9, cp9, rfl, HO9, hs91, hs92, hp91, hp92⟩ := hdv9.op
              have HBE := Lib.hid hbe9
              have HRX2 := Lib.hid ((HBE.out.block yb HY.out.lt).trans HRX.out)
              clear hbe9 hdv9 z0 z1 z2 z3
              go_upto_region 23 with (refine dk_store rfl (.tmp 6) (.tmp 121) rfl yb _ _ _ _ _ HRX2.out rfl rfl rfl ⟨rfl, rfl, rfl, rfl⟩ ?_; rintro we re hce)
              have hY3 := HY.out.below HBE.out
              have hX3 := HX.out.below HBE.out
              have G1 : BD we yb X := hY3.stored re.out HO9.out.dv HXV.out hce
              have G2 : BD we xb X := hX3.other HXV.out hY3 hxy hce
              have hb5 := HB3.out.trans ((Chg.below (HBc.out.trans (HBE.out.mono HBc.out.size)) (by have := HBc.out.size; have := HBE.out.size; omega) hyw hce).mono HB3.out.size)
              have HB5 := Lib.hid hb5
              obtain ⟨ps4, N4, cs4, pp4, M4, cp4, hr4, HO4, _, _, _, _⟩ := G2.open
              obtain ⟨ps5, N5, cs5, pp5, M5, cp5, hr5, HO5, _, _, _, _⟩ := G1.open
              obtain ⟨a0, a1, a2, a3, _⟩ := row_cells hr4
              obtain ⟨b0, b1, b2, b3, _⟩ := row_cells hr5
              have HS := same_any _ _ X X we HO4.out.dv HO5.out.dv
              rw [sameD_self] at HS
              have HS := Lib.hid HS
              clear hr4 hr5 G1 G2 hY3 hX3 hb5 hce
              go_wp2_with fail
              refine HS.out.mono ?_
              rintro e wf ⟨rfl, hbf⟩
              have HB6 := Lib.hid (HB5.out.trans (hbf.mono HB5.out.size))
              clear hbf
              go_wp2_with fail
              go_ret
              exact ⟨rfl, HB6.out⟩
end Go.Proofs.Ytanmhjbeookfiaa
