/-
  Merkle: the law MerkleBound.
-/
import Derived.Test.YteeabenmfmeooaaDoorCy
import Derived.Test.YteeabenmfmeooaaDoorLawLength
namespace Go.Proofs.YteeabenmfmeooaaDoor
open Go Go.RowKit
theorem bv_form {w : World} {v : Value} {l : List UInt8} (h : BV w v l) : ∃ p c, v = .slice p l.length c := by
  obtain ⟨_, c, p, e, _⟩ := h
  exact ⟨p, c, e⟩
set_option maxRecDepth 100000 in
set_option maxHeartbeats 4000000 in
theorem bound_law (n i : Int) (u : Value) (a : List UInt8) (v : Value) (b : List UInt8) (x : Value) (p : List (List UInt8)) (y : Value) (q : List (List UInt8)) (w : World) (_hn : -9223372036854775808 ≤ n ∧ n ≤ 9223372036854775807) (_hi : -9223372036854775808 ≤ i ∧ i ≤ 9223372036854775807) (hu : BV w u a) (hv' : BV w v b) (hx : LD w x p) (hp : D32 p) (hy : LD w y q) (hq : D32 q) (hk : KOK w) :
    Calls Tryd.prog 6 #[.int .i64 n, .int .i64 i, u, v, x, y] w (Ret (.bool true) w) := by
  have HU := Lib.hid hu
  have HV := Lib.hid hv'
  have HX := Lib.hid hx
  have HY := Lib.hid hy
  have HK := Lib.hid hk
  have H32 := Lib.hid (⟨hp, hq⟩ : D32 p ∧ D32 q)
  have SN := Lib.hid (sane_any w hk)
  obtain ⟨p1, c1, rfl⟩ := bv_form hu
  obtain ⟨p2, c2, rfl⟩ := bv_form hv'
  obtain ⟨_, c3, p3, rfl, _⟩ := hx
  obtain ⟨_, c4, p4, rfl, _⟩ := hy
  clear hu hv' hk hp hq
  by_cases g1 : 200 < a.length ∨ 200 < b.length ∨ 20 < p.length ∨ 20 < q.length
  · clear HU HV HX HY H32 HK
    generalize a.length = la at *
    generalize b.length = lb at *
    generalize p.length = lp at *
    generalize q.length = lq at *
    by_cases k1 : (200 : Int) < (la : Int)
    · go_enter Tryd.func6, Tryd.ntmps6
      go_wp2_with (go_at_call 10; refine SN.out.mono ?_; rintro e w1 ⟨rfl, hb1⟩)
      go_ret
      exact ⟨rfl, hb1⟩
    by_cases k2 : (200 : Int) < (lb : Int)
    · go_enter Tryd.func6, Tryd.ntmps6
      go_wp2_with (go_at_call 10; refine SN.out.mono ?_; rintro e w1 ⟨rfl, hb1⟩)
      go_ret
      exact ⟨rfl, hb1⟩
    by_cases k3 : (20 : Int) < (lp : Int)
    · go_enter Tryd.func6, Tryd.ntmps6
      go_wp2_with (go_at_call 10; refine SN.out.mono ?_; rintro e w1 ⟨rfl, hb1⟩)
      go_ret
      exact ⟨rfl, hb1⟩
    have k4 : (20 : Int) < (lq : Int) := by omega
    go_enter Tryd.func6, Tryd.ntmps6
    go_wp2_with (go_at_call 10; refine SN.out.mono ?_; rintro e w1 ⟨rfl, hb1⟩)
    go_ret
    exact ⟨rfl, hb1⟩
  have k1 : ¬ (200 : Int) < (a.length : Int) := by omega
  have k2 : ¬ (200 : Int) < (b.length : Int) := by omega
  have k3 : ¬ (20 : Int) < (p.length : Int) := by omega
  have k4 : ¬ (20 : Int) < (q.length : Int) := by omega
  have CA := Lib.hid fun (U : World) (hb : Below w.heap.size w U) => Climb_any n i _ _ a p U (HU.out.below hb) (by omega) (HX.out.below hb) H32.out.1 (HK.out.below hb)
  have CB := Lib.hid fun (U : World) (hb : Below w.heap.size w U) => Climb_any n i _ _ b q U (HV.out.below hb) (by omega) (HY.out.below hb) H32.out.2 (HK.out.below hb)
  have hlA := climbD_len n i a p
  have hlB := climbD_len n i b q
  have hEQ := fun (U : World) => dg_equal _ _ hlA hlB U
  cases hcb : collB n i a b p q
  · have CO := Lib.hid fun (U : World) (hb : Below w.heap.size w U) => Collide_no n i _ _ _ _ a b p q U (HU.out.below hb) (HV.out.below hb) (by omega) (by omega) (HX.out.below hb) (HY.out.below hb) H32.out.1 H32.out.2 (HK.out.below hb) hcb
    have hcc : ¬ chkP n i p.length = 0 ∨ (chkP n i p.length = 0 ∧ ¬ chkP n i q.length = 0) ∨ (chkP n i p.length = 0 ∧ chkP n i q.length = 0 ∧ (climbD n i a p == climbD n i b q) = false) ∨ (chkP n i p.length = 0 ∧ chkP n i q.length = 0 ∧ climbD n i a p = climbD n i b q ∧ a = b) := by
      unfold collB at hcb
      by_cases z1 : chkP n i p.length = 0
      · by_cases z2 : chkP n i q.length = 0
        · cases hd : (climbD n i a p == climbD n i b q)
          · exact .inr (.inr (.inl ⟨z1, z2, rfl⟩))
          · rw [decide_eq_true z1, decide_eq_true z2, hd] at hcb
            exact .inr (.inr (.inr ⟨z1, z2, by simpa using hd, by simpa using hcb⟩))
        · exact .inr (.inl ⟨z1, z2⟩)
      · exact .inl z1
    clear hcb HX HY H32 HK g1
    rcases hcc with z1 | ⟨z1, z2⟩ | ⟨z1, z2, hd⟩ | ⟨z1, z2, hd, hab⟩
    · generalize climbD n i a p = dA at *
      generalize climbD n i b q = dB at *
      generalize chkP n i p.length = e1 at *
      generalize chkP n i q.length = e2 at *
      go_enter Tryd.func6, Tryd.ntmps6
      go_wp2_with (first
        | (go_at_call 10; refine SN.out.mono ?_; rintro e w1 ⟨rfl, hb1⟩; have HB1 := Lib.hid hb1; clear SN)
        | (go_at_call 17; refine (CA.out _ HB1.out).mono ?_; rintro e w2 ⟨rfl, hb2⟩; have HB2 := Lib.hid (HB1.out.trans (hb2.mono HB1.out.size)); clear CA)
        | (refine dg_store rfl (.tmp 13) (.tmp 46) rfl w2.heap.size _ _ (zeros32 w2) (by simp) hlA rfl rfl ?_; rintro w3 hd3 hc3; have HB3 := Lib.hid (HB2.out.trans ((chg_alloc_below hc3 rfl).mono HB2.out.size)); clear hc3)
        | (go_at_call 17; refine (CB.out _ HB3.out).mono ?_; rintro e w4 ⟨rfl, hb4⟩; have HB4 := Lib.hid (HB3.out.trans (hb4.mono HB3.out.size)); have hd4 := Lib.hid (hd3.out.below hb4); clear CB)
        | (refine dg_store rfl (.tmp 15) (.tmp 54) rfl w4.heap.size _ _ (zeros32 w4) (by simp) hlB rfl rfl ?_; rintro w5 hd5 hc5; have HC5 := Lib.hid (chg_alloc_below hc5 rfl); have HB5 := Lib.hid (HB4.out.trans (HC5.out.mono HB4.out.size)); have hd6 := Lib.hid (hd4.out.below HC5.out); clear hc5)
        | (go_at_call 19; refine (CO.out _ HB5.out).mono ?_; rintro e w7 ⟨rfl, hb7⟩; have HB7 := Lib.hid (HB5.out.trans (hb7.mono HB5.out.size)); have hd7 := Lib.hid (hd6.out.below hb7); have hd8 := Lib.hid (hd5.out.below hb7); have S1 := bv_string (HU.out.below HB7.out); have S2 := bv_string (HV.out.below HB7.out); clear CO)
        | (refine dg_loadg rfl (.tmp 13) rfl w2.heap.size dA hd7.out hlA rfl ?_)
        | (refine dg_loadg rfl (.tmp 15) rfl w4.heap.size dB hd8.out hlB rfl ?_)
        | (go_at_call 21; refine (SX.out _ _ HB7.out HX7.out).mono ?_; rintro e w8 ⟨rfl, hb8⟩; have HB8 := Lib.hid (HB7.out.trans (hb8.mono HB7.out.size)); have HY8 := Lib.hid (HY7.out.below hb8); clear SX)
        | (go_at_call 21; refine (SY.out _ _ HB8.out HY8.out).mono ?_; rintro e w9 ⟨rfl, hb9⟩; have HB9 := Lib.hid (HB8.out.trans (hb9.mono HB8.out.size))))
      go_ret
      exact ⟨rfl, HB7.out⟩
    · rw [z1] at CA
      generalize climbD n i a p = dA at *
      generalize climbD n i b q = dB at *
      clear z1
      generalize chkP n i q.length = e2 at *
      go_enter Tryd.func6, Tryd.ntmps6
      go_wp2_with (first
        | (go_at_call 10; refine SN.out.mono ?_; rintro e w1 ⟨rfl, hb1⟩; have HB1 := Lib.hid hb1; clear SN)
        | (go_at_call 17; refine (CA.out _ HB1.out).mono ?_; rintro e w2 ⟨rfl, hb2⟩; have HB2 := Lib.hid (HB1.out.trans (hb2.mono HB1.out.size)); clear CA)
        | (refine dg_store rfl (.tmp 13) (.tmp 46) rfl w2.heap.size _ _ (zeros32 w2) (by simp) hlA rfl rfl ?_; rintro w3 hd3 hc3; have HB3 := Lib.hid (HB2.out.trans ((chg_alloc_below hc3 rfl).mono HB2.out.size)); clear hc3)
        | (go_at_call 17; refine (CB.out _ HB3.out).mono ?_; rintro e w4 ⟨rfl, hb4⟩; have HB4 := Lib.hid (HB3.out.trans (hb4.mono HB3.out.size)); have hd4 := Lib.hid (hd3.out.below hb4); clear CB)
        | (refine dg_store rfl (.tmp 15) (.tmp 54) rfl w4.heap.size _ _ (zeros32 w4) (by simp) hlB rfl rfl ?_; rintro w5 hd5 hc5; have HC5 := Lib.hid (chg_alloc_below hc5 rfl); have HB5 := Lib.hid (HB4.out.trans (HC5.out.mono HB4.out.size)); have hd6 := Lib.hid (hd4.out.below HC5.out); clear hc5)
        | (go_at_call 19; refine (CO.out _ HB5.out).mono ?_; rintro e w7 ⟨rfl, hb7⟩; have HB7 := Lib.hid (HB5.out.trans (hb7.mono HB5.out.size)); have hd7 := Lib.hid (hd6.out.below hb7); have hd8 := Lib.hid (hd5.out.below hb7); have S1 := bv_string (HU.out.below HB7.out); have S2 := bv_string (HV.out.below HB7.out); clear CO)
        | (refine dg_loadg rfl (.tmp 13) rfl w2.heap.size dA hd7.out hlA rfl ?_)
        | (refine dg_loadg rfl (.tmp 15) rfl w4.heap.size dB hd8.out hlB rfl ?_)
        | (go_at_call 21; refine (SX.out _ _ HB7.out HX7.out).mono ?_; rintro e w8 ⟨rfl, hb8⟩; have HB8 := Lib.hid (HB7.out.trans (hb8.mono HB7.out.size)); have HY8 := Lib.hid (HY7.out.below hb8); clear SX)
        | (go_at_call 21; refine (SY.out _ _ HB8.out HY8.out).mono ?_; rintro e w9 ⟨rfl, hb9⟩; have HB9 := Lib.hid (HB8.out.trans (hb9.mono HB8.out.size))))
      go_ret
      exact ⟨rfl, HB7.out⟩
    · rw [z1] at CA
      rw [z2] at CB
      rw [hd] at hEQ
      generalize climbD n i a p = dA at *
      generalize climbD n i b q = dB at *
      clear z1 z2 hd
      go_enter Tryd.func6, Tryd.ntmps6
      go_wp2_with (first
        | (go_at_call 10; refine SN.out.mono ?_; rintro e w1 ⟨rfl, hb1⟩; have HB1 := Lib.hid hb1; clear SN)
        | (go_at_call 17; refine (CA.out _ HB1.out).mono ?_; rintro e w2 ⟨rfl, hb2⟩; have HB2 := Lib.hid (HB1.out.trans (hb2.mono HB1.out.size)); clear CA)
        | (refine dg_store rfl (.tmp 13) (.tmp 46) rfl w2.heap.size _ _ (zeros32 w2) (by simp) hlA rfl rfl ?_; rintro w3 hd3 hc3; have HB3 := Lib.hid (HB2.out.trans ((chg_alloc_below hc3 rfl).mono HB2.out.size)); clear hc3)
        | (go_at_call 17; refine (CB.out _ HB3.out).mono ?_; rintro e w4 ⟨rfl, hb4⟩; have HB4 := Lib.hid (HB3.out.trans (hb4.mono HB3.out.size)); have hd4 := Lib.hid (hd3.out.below hb4); clear CB)
        | (refine dg_store rfl (.tmp 15) (.tmp 54) rfl w4.heap.size _ _ (zeros32 w4) (by simp) hlB rfl rfl ?_; rintro w5 hd5 hc5; have HC5 := Lib.hid (chg_alloc_below hc5 rfl); have HB5 := Lib.hid (HB4.out.trans (HC5.out.mono HB4.out.size)); have hd6 := Lib.hid (hd4.out.below HC5.out); clear hc5)
        | (go_at_call 19; refine (CO.out _ HB5.out).mono ?_; rintro e w7 ⟨rfl, hb7⟩; have HB7 := Lib.hid (HB5.out.trans (hb7.mono HB5.out.size)); have hd7 := Lib.hid (hd6.out.below hb7); have hd8 := Lib.hid (hd5.out.below hb7); have S1 := bv_string (HU.out.below HB7.out); have S2 := bv_string (HV.out.below HB7.out); clear CO)
        | (refine dg_loadg rfl (.tmp 13) rfl w2.heap.size dA hd7.out hlA rfl ?_)
        | (refine dg_loadg rfl (.tmp 15) rfl w4.heap.size dB hd8.out hlB rfl ?_)
        | (go_at_call 21; refine (SX.out _ _ HB7.out HX7.out).mono ?_; rintro e w8 ⟨rfl, hb8⟩; have HB8 := Lib.hid (HB7.out.trans (hb8.mono HB7.out.size)); have HY8 := Lib.hid (HY7.out.below hb8); clear SX)
        | (go_at_call 21; refine (SY.out _ _ HB8.out HY8.out).mono ?_; rintro e w9 ⟨rfl, hb9⟩; have HB9 := Lib.hid (HB8.out.trans (hb9.mono HB8.out.size))))
      go_ret
      exact ⟨rfl, HB7.out⟩
    · rw [z1] at CA
      rw [z2] at CB
      rw [hd, beq_self_eq_true] at hEQ
      rw [hd] at CA hlA
      subst hab
      generalize climbD n i a q = dB at *
      clear z1 z2 hd
      go_enter Tryd.func6, Tryd.ntmps6
      go_wp2_with (first
        | (go_at_call 10; refine SN.out.mono ?_; rintro e w1 ⟨rfl, hb1⟩; have HB1 := Lib.hid hb1; clear SN)
        | (go_at_call 17; refine (CA.out _ HB1.out).mono ?_; rintro e w2 ⟨rfl, hb2⟩; have HB2 := Lib.hid (HB1.out.trans (hb2.mono HB1.out.size)); clear CA)
        | (refine dg_store rfl (.tmp 13) (.tmp 46) rfl w2.heap.size _ _ (zeros32 w2) (by simp) hlA rfl rfl ?_; rintro w3 hd3 hc3; have HB3 := Lib.hid (HB2.out.trans ((chg_alloc_below hc3 rfl).mono HB2.out.size)); clear hc3)
        | (go_at_call 17; refine (CB.out _ HB3.out).mono ?_; rintro e w4 ⟨rfl, hb4⟩; have HB4 := Lib.hid (HB3.out.trans (hb4.mono HB3.out.size)); have hd4 := Lib.hid (hd3.out.below hb4); clear CB)
        | (refine dg_store rfl (.tmp 15) (.tmp 54) rfl w4.heap.size _ _ (zeros32 w4) (by simp) hlB rfl rfl ?_; rintro w5 hd5 hc5; have HC5 := Lib.hid (chg_alloc_below hc5 rfl); have HB5 := Lib.hid (HB4.out.trans (HC5.out.mono HB4.out.size)); have hd6 := Lib.hid (hd4.out.below HC5.out); clear hc5)
        | (go_at_call 19; refine (CO.out _ HB5.out).mono ?_; rintro e w7 ⟨rfl, hb7⟩; have HB7 := Lib.hid (HB5.out.trans (hb7.mono HB5.out.size)); have hd7 := Lib.hid (hd6.out.below hb7); have hd8 := Lib.hid (hd5.out.below hb7); have S1 := bv_string (HU.out.below HB7.out); have S2 := bv_string (HV.out.below HB7.out); clear CO)
        | (refine dg_loadg rfl (.tmp 13) rfl w2.heap.size dB hd7.out hlA rfl ?_)
        | (refine dg_loadg rfl (.tmp 15) rfl w4.heap.size dB hd8.out hlB rfl ?_)
        | (go_at_call 21; refine (SX.out _ _ HB7.out HX7.out).mono ?_; rintro e w8 ⟨rfl, hb8⟩; have HB8 := Lib.hid (HB7.out.trans (hb8.mono HB7.out.size)); have HY8 := Lib.hid (HY7.out.below hb8); clear SX)
        | (go_at_call 21; refine (SY.out _ _ HB8.out HY8.out).mono ?_; rintro e w9 ⟨rfl, hb9⟩; have HB9 := Lib.hid (HB8.out.trans (hb9.mono HB8.out.size))))
      go_ret
      exact ⟨rfl, HB7.out⟩
  · obtain ⟨j, s, rfl, rfl, hjs, hs, e1, e2, z1, z2, hab, hcl⟩ := collB_yes hcb
    have hclash := co_clash H32.out.1 H32.out.2 e1 e2 (by simpa using hab) hcl
    have CO := Lib.hid fun (U : World) (hb : Below w.heap.size w U) => Collide_yes s j _ _ _ _ a b p q U (HU.out.below hb) (HV.out.below hb) (by omega) (by omega) (HX.out.below hb) (HY.out.below hb) H32.out.1 H32.out.2 (HK.out.below hb) hcb
    have hdd : climbD (s : Int) (j : Int) a p = climbD (s : Int) (j : Int) b q := by unfold climbD; rw [if_pos z1, if_pos z2]; exact hcl
    obtain ⟨hlX, hlY⟩ := co_lens (a := a) (b := b) H32.out.1 H32.out.2 e1 e2 (by omega) (by omega)
    rw [z1] at CA
    rw [z2] at CB
    rw [hdd, beq_self_eq_true] at hEQ
    rw [hdd] at CA hlA
    have hXY : (coX j s a b p q == coY j s a b p q) = false := by simpa using hclash.1
    have hSS := hclash.2
    have SX := Lib.hid fun (U : World) (vx : Value) (hb : Below w.heap.size w U) (h : BV U vx (coX j s a b p q)) => sum_any vx _ U h (by omega) (HK.out.below hb)
    have SY := Lib.hid fun (U : World) (vx : Value) (hb : Below w.heap.size w U) (h : BV U vx (coY j s a b p q)) => sum_any vx _ U h (by omega) (HK.out.below hb)
    unfold ShaR at SX SY
    rw [hSS] at SX
    have hlS := sha_len (coY j s a b p q)
    have hES : ∀ w, (Op.equalIn 10000 30 (dgv (sha (coY j s a b p q))) (dgv (sha (coY j s a b p q)))).run Tryd.prog w = .ok true w := fun w => by rw [dg_equal _ _ hlS hlS, beq_self_eq_true]
    generalize climbD (s : Int) (j : Int) b q = dB at *
    clear z1 z2 hdd hcl hcb hclash hSS e1 e2 HX HY H32 HK g1 hlX hlY hlS
    generalize coX j s a b p q = X at *
    generalize coY j s a b p q = Y at *
    generalize sha Y = DS at *
    go_enter Tryd.func6, Tryd.ntmps6
    go_wp2_with (first
      | (go_at_call 10; refine SN.out.mono ?_; rintro e w1 ⟨rfl, hb1⟩; have HB1 := Lib.hid hb1; clear SN)
      | (go_at_call 17; refine (CA.out _ HB1.out).mono ?_; rintro e w2 ⟨rfl, hb2⟩; have HB2 := Lib.hid (HB1.out.trans (hb2.mono HB1.out.size)); clear CA)
      | (refine dg_store rfl (.tmp 13) (.tmp 46) rfl w2.heap.size _ _ (zeros32 w2) (by simp) hlA rfl rfl ?_; rintro w3 hd3 hc3; have HB3 := Lib.hid (HB2.out.trans ((chg_alloc_below hc3 rfl).mono HB2.out.size)); clear hc3)
      | (go_at_call 17; refine (CB.out _ HB3.out).mono ?_; rintro e w4 ⟨rfl, hb4⟩; have HB4 := Lib.hid (HB3.out.trans (hb4.mono HB3.out.size)); have hd4 := Lib.hid (hd3.out.below hb4); clear CB)
      | (refine dg_store rfl (.tmp 15) (.tmp 54) rfl w4.heap.size _ _ (zeros32 w4) (by simp) hlB rfl rfl ?_; rintro w5 hd5 hc5; have HC5 := Lib.hid (chg_alloc_below hc5 rfl); have HB5 := Lib.hid (HB4.out.trans (HC5.out.mono HB4.out.size)); have hd6 := Lib.hid (hd4.out.below HC5.out); clear hc5)
      | (go_at_call 19; refine (CO.out _ HB5.out).mono ?_; rintro e w7 ⟨rx, ry, rfl, hx7, hy7, hb7⟩; have HB7 := Lib.hid (HB5.out.trans (hb7.mono HB5.out.size)); have hd7 := Lib.hid (hd6.out.below hb7); have hd8 := Lib.hid (hd5.out.below hb7); have S1 := bv_string (HU.out.below HB7.out); have S2 := bv_string (HV.out.below HB7.out); have HX7 := hx7; have HY7 := hy7; obtain ⟨rpx, rcx, rfl⟩ := bv_form hx7.out; obtain ⟨rpy, rcy, rfl⟩ := bv_form hy7.out; have S3 := bv_string hx7.out; have S4 := bv_string hy7.out; clear CO hx7 hy7)
      | (refine dg_loadg rfl (.tmp 13) rfl w2.heap.size dB hd7.out hlA rfl ?_)
      | (refine dg_loadg rfl (.tmp 15) rfl w4.heap.size dB hd8.out hlB rfl ?_)
      | (go_at_call 21; refine (SX.out _ _ HB7.out HX7.out).mono ?_; rintro e w8 ⟨rfl, hb8⟩; have HB8 := Lib.hid (HB7.out.trans (hb8.mono HB7.out.size)); have HY8 := Lib.hid (HY7.out.below hb8); clear SX)
      | (go_at_call 21; refine (SY.out _ _ HB8.out HY8.out).mono ?_; rintro e w9 ⟨rfl, hb9⟩; have HB9 := Lib.hid (HB8.out.trans (hb9.mono HB8.out.size))))
    go_ret
    exact ⟨rfl, HB9.out⟩
end Go.Proofs.YteeabenmfmeooaaDoor
