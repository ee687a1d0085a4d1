/-
  Digest: the law DigestChains.
-/
import Derived.Test.YtekboemijafplaaDoorSteps2
import Derived.Test.YtekboemijafplaaDoorRTag
namespace Go.Proofs.YtekboemijafplaaDoor
open Go Go.RowKit
theorem ld_chg {w w' : World} {g n cap : Nat} {p : Option Addr} {l : List (List UInt8)} (h : LD w (.slice p n cap) l) (hc : Chg g w w') (hne : ∀ a, p = some a → a.block ≠ g) : LD w' (.slice p n cap) l := by
  obtain ⟨b', cap', p', hv, h1, h2, h3, h4⟩ := h
  cases hv
  refine ⟨b', cap, _, rfl, h1, h2, h3, ?_⟩
  rcases h4 with h4 | ⟨o', e, hlt, hr⟩
  · exact .inl h4
  · subst e
    exact .inr ⟨o', rfl, Nat.lt_of_lt_of_le hlt hc.size, fun j u hj => by rw [World.cell?_of_block (w := w) (a := ⟨b', o' + j, none⟩) (hc.block b' hlt (hne _ rfl))]; exact hr j u hj⟩
set_option maxRecDepth 100000 in
set_option maxHeartbeats 16000000 in
theorem chains_any (f : List UInt8) (v : Value) (bs : List UInt8) (w : World) (hf : f.length = 32) (hv : BV w v bs) (hk : KOK w) : Calls Tryd.prog 10 #[dgv f, v] w (Ret (.bool true) w) := by
  have HV := Lib.hid hv
  have HK := Lib.hid hk
  have HF := Lib.hid hf
  clear hk hv hf
  go_enter Tryd.func10, Tryd.ntmps10
  have HBa := Lib.hid (one_new w (.cells (f.map byt).toArray 26))
  have HDa : Hid (Dg (w.alloc (.cells (f.map byt).toArray 26)) w.heap.size f) := Lib.hid (heap_alloc_new _ _)
  go_wp2_with (first
    | (go_at_call 11; refine (sane_any _ (HK.out.below HBa.out)).mono ?_; rintro e w1 ⟨rfl, hb1⟩; have HB1 := Lib.hid (HBa.out.trans (hb1.mono HBa.out.size)); have HD1 := Lib.hid (HDa.out.below hb1); clear hb1))
  have hRf := dg_range HD1.out
  have B0 := Lib.hid (below_drew (Below.refl w1.heap.size w1))
  have hsf : (Tryd.prog.info? 26).map (·.size) = some (f.map byt).length := by rw [size26, List.length_map, HF.out]
  clear HDa HBa
  generalize w.heap.size = gp at HD1 hRf ⊢
  refine wp_region_held_drew (S := fun w' => w'.rangeAt gp 0 (f.map byt)) (by kernel_rfl) hRf (fun hHeld => ?_)
  refine take_at (i := 0) (k := 12) (v := dgv f) rfl rfl (by kernel_rfl) (by kernel_rfl) (by kernel_rfl) (fun _ _ _ h => h) (yieldsIf_load_mid (by rfl) 26 (.tmp 2) rfl gp 0 rfl (f.map byt) _ (fun w' h => h) Tryd.underlying26 rfl hsf) hHeld ?_
  try simp only [Act.put, List.setIfInBounds_toArray, List.set_cons_zero, List.set_cons_succ]
  refine take_at (i := 1) (k := 13) (v := dgv f) rfl rfl (by kernel_rfl) (by kernel_rfl) (by kernel_rfl) (fun _ _ _ h => h) (yieldsIf_load_mid (by rfl) 26 (.tmp 2) rfl gp 0 rfl (f.map byt) _ (fun w' h => h) Tryd.underlying26 rfl hsf) hHeld ?_
  try simp only [Act.put, List.setIfInBounds_toArray, List.set_cons_zero, List.set_cons_succ]
  clear hHeld
  refine wpAnyH_ready (rs := [2, 3]) (by kernel_rfl) (by simp) ?_
  refine AllReadyH.cons rfl (fun K hK => ?_) (AllReadyH.cons rfl (fun K hK => ?_) AllReadyH.nil)
  · rw [if_pos (by rfl)]
    refine wp_al rfl rfl ?_
    intro U1 ge hbe1 hgE hlt1 DE1
    have B1 := Lib.hid (B0.out.trans (hbe1.mono B0.out.size))
    have hz1 := B0.out.size
    refine hK.out _ _ (range_below hRf B1.out) (fun _ => ?_)
    try simp only [Act.put, List.setIfInBounds_toArray, List.set_cons_zero, List.set_cons_succ]
    clear hK K
    refine wpAnyH_ready (rs := [3]) (by kernel_rfl) (by simp) ?_
    refine AllReadyH.cons rfl (fun K hK => ?_) AllReadyH.nil
    rw [if_pos (by rfl)]
    refine wp_al rfl rfl ?_
    intro U2 gw hbe2 hgW hlt2 DW2
    have hz2 := B1.out.size
    have B2 := Lib.hid (B1.out.trans (hbe2.mono B1.out.size))
    have DE2 := Lib.hid (DE1.out.below hbe2)
    have hne : ge ≠ gw := by omega
    have hy2 := hbe2.size
    have hz3 := B2.out.size
    have hgE' : w1.heap.size ≤ ge := by omega
    have hgW' : w1.heap.size ≤ gw := by omega
    clear hbe1 hbe2
    refine hK.out _ _ (range_below hRf B2.out) (fun _ => ?_)
    try simp only [Act.put, List.setIfInBounds_toArray, List.set_cons_zero, List.set_cons_succ]
    clear hK K
    refine wpAnyH_ready (rs := [4]) (by kernel_rfl) (by simp) ?_
    refine AllReadyH.cons rfl (fun K hK => ?_) AllReadyH.nil
    rw [if_pos (by rfl)]
    refine wp_st (.tmp 5) (.tmp 12) rfl rfl ge zeros f DE2.out (by simp [zeros]) HF.out rfl rfl ?_
    intro U3 DE3 hc3
    have B3 := Lib.hid (Chg.below B2.out (by omega) hgE' hc3)
    have hy3 := hc3.size
    have DW3 : Hid (Dg U3 gw zeros) := Lib.hid ((hc3.block gw (by omega) (Ne.symm hne)).trans DW2.out)
    refine hK.out _ _ (range_below hRf B3.out) (fun _ => ?_)
    try simp only [Act.put, List.setIfInBounds_toArray, List.set_cons_zero, List.set_cons_succ]
    clear hK K
    refine wpAnyH_ready (rs := [5]) (by kernel_rfl) (by simp) ?_
    refine AllReadyH.cons rfl (fun K hK => ?_) AllReadyH.nil
    rw [if_pos (by rfl)]
    refine wp_st (.tmp 6) (.tmp 13) rfl rfl gw zeros f DW3.out (by simp [zeros]) HF.out rfl rfl ?_
    intro U DW hc4
    have B4 := Lib.hid (Chg.below B3.out (by omega) hgW' hc4)
    have hy4 := hc4.size
    have DE : Hid (Dg U ge f) := Lib.hid ((hc4.block ge (by omega) hne).trans DE3.out)
    refine hK.out _ _ (range_below hRf B4.out) (fun _ => ?_)
    try simp only [Act.put, List.setIfInBounds_toArray, List.set_cons_zero, List.set_cons_succ]
    clear hK K
    refine wpAnyH_done (by kernel_rfl) ?_ _
    have HBU := Lib.hid (HB1.out.trans (B4.out.mono HB1.out.size))
    have hltE : ge < U.heap.size := by omega
    have hltW : gw < U.heap.size := by omega
    have hmw := HB1.out.size
    have hmE : w.heap.size ≤ ge := by omega
    have hmW : w.heap.size ≤ gw := by omega
    clear hc3 hc4 DE3 DW3 DE2 DW2 B4 B3 B2 B1 B0 hRf hz1 hz2 hz3 hy2 hy3 hy4 hgE hgW hgE' hgW' hlt1 hlt2 hmw DE1
    go_wp2_with fail
    refine (digestsOf_any v bs U (HV.out.below HBU.out)).mono ?_
    rintro e w2 ⟨L, rfl, ho2, hb2, hob2⟩
    have hm : min bs.length 24 ≤ 24 := Nat.min_le_right _ _
    generalize hN : min bs.length 24 = n at *
    have HL2 := Lib.hid (ownN_ld (l := dof bs n) (by rw [dof_len]; exact ho2) (dof_32 bs n))
    have hLl := dof_len bs n
    have H32 := Lib.hid (dof_32 bs n)
    have HB2 := Lib.hid (HBU.out.trans (hb2.mono HBU.out.size))
    have DE2 := Lib.hid (DE.out.below hb2)
    have DW2 := Lib.hid (DW.out.below hb2)
    have hyU := hb2.size
    clear ho2 hb2 hN DE DW HBU
    generalize dof bs n = l at *
    have hform : ∃ p cap, L = .slice p n cap ∧ n ≤ cap ∧ cap ≤ maxLen := by
      obtain ⟨b, cap, p, rfl, h1, h2, h3, h4⟩ := HL2.out
      exact ⟨p, cap, by rw [hLl], by omega, h2⟩
    obtain ⟨p, cap, rfl, hcap, hmax⟩ := hform
    unfold maxLen at hmax
    have hne5 : Hid (∀ a, p = some a → a.block ≠ ge ∧ a.block ≠ gw) := Lib.hid (fun a e => by
      subst e
      have h0 : U.heap.size ≤ a.block := hob2 a.block rfl
      omega)
    clear hob2
    go_wp2_with fail
    go_loopw [17] (fun i wr => ∃ (k : Nat) (c : List UInt8), k ≤ n ∧ i = .int .i64 (k : Int) ∧ Hid (c.length = 32) ∧ Hid (Dg wr ge c) ∧ Hid (Dg wr gw c) ∧ Hid (LD wr (.slice p n cap) l) ∧ Hid (Below w.heap.size w wr)) (fun i _ => n - (intOf i).toNat)
    case atStart => exact ⟨0, f, Nat.zero_le _, rfl, Lib.hid HF.out, DE2, DW2, HL2, HB2⟩
    case round =>
      obtain ⟨k, c, hk, rfl, hc32, hE, hW, hL, hB⟩ := hrel
      by_cases hlt : k < n
      · obtain ⟨b, o, hpe⟩ : ∃ b o, p = some ⟨b, o, none⟩ := by
          obtain ⟨b, cap', p', e, h1, h2, h3, h4⟩ := hL.out
          cases e
          rcases h4 with h4 | ⟨o, e, _⟩
          · have h0 : l.length = 0 := by rw [h4]; rfl
            exact absurd h0 (by omega)
          · exact ⟨b, o, e⟩
        subst hpe
        have hkl : k < l.length := by omega
        obtain ⟨d, hd⟩ : ∃ d, l[k]? = some d := ⟨l[k], List.getElem?_eq_getElem hkl⟩
        have hd32 := Lib.hid (H32.out d (List.mem_of_getElem? hd))
        have HR := Lib.hid (hL.out.at H32.out k d hd)
        have c1 : ((k : Nat) : Int) < (n : Int) := by omega
        clear HL2 HB2 DE2 DW2
        have hge0 : Hid (ge < wr.heap.size) := Lib.hid (Array.getElem?_eq_some_iff.1 hE.out).1
        have hgw0 : Hid (gw < wr.heap.size) := Lib.hid (Array.getElem?_eq_some_iff.1 hW.out).1
        go_wp2_with (first
          | (refine el_load rfl (.tmp 19) rfl b (o + k * 32) d HR.out hd32.out rfl ?_)
          | (refine dg_store rfl (.tmp 8) (.tmp 20) rfl wr.heap.size zeros d (zeros32 wr) (by simp [zeros]) hd32.out rfl rfl ?_; rintro w5 hd5 hc5; have hb5 := Lib.hid (chg_alloc_below hc5 rfl); have hE5 := Lib.hid (hE.out.below hb5.out); clear hc5)
          | (refine dg_load rfl (.tmp 5) rfl ge c hE5.out hc32.out rfl ?_)
          | (refine dg_store rfl (.tmp 9) (.tmp 21) rfl w5.heap.size zeros c (zeros32 w5) (by simp [zeros]) hc32.out rfl rfl ?_; rintro w6 hd6 hc6; have hb6 := Lib.hid (chg_alloc_below hc6 rfl); clear hc6))
        have hz5 := hb5.out.size
        have hz6 := hb6.out.size
        have hb56 := Lib.hid (hb5.out.trans (hb6.out.mono hz5))
        have E6 := Lib.hid (hE.out.below hb56.out)
        have W6 := Lib.hid (hW.out.below hb56.out)
        have L6 := Lib.hid (hL.out.below hb56.out)
        have D6 := Lib.hid (hd5.out.below hb6.out)
        have C6 := hd6
        have B6 := Lib.hid (hB.out.trans (hb56.out.mono hB.out.size))
        have K6 := Lib.hid (HK.out.below B6.out)
        have hlt5 : wr.heap.size < w5.heap.size := (Array.getElem?_eq_some_iff.1 hd5.out).1
        have hlt6 : w5.heap.size < w6.heap.size := (Array.getElem?_eq_some_iff.1 hd6.out).1
        have hge1 := hge0.out
        have hgw1 := hgw0.out
        have hme : wr.heap.size ≠ ge := by omega
        have hmw : wr.heap.size ≠ gw := by omega
        have hce : w5.heap.size ≠ ge := by omega
        have hcw : w5.heap.size ≠ gw := by omega
        have hme6 : wr.heap.size < w6.heap.size := by omega
        have hge6 : ge < w6.heap.size := by omega
        have hgw6 : gw < w6.heap.size := by omega
        have hmz := B6.out.size
        clear hge0 hgw0 hge1 hgw1 hd5 hd6 hb5 hb6 hb56 hE hW hL hB HR hE5 hz5 hz6 hlt5
        generalize wr.heap.size = h at *
        generalize w5.heap.size = g9 at *
        have hRD := dg_range D6.out
        have B7 := Lib.hid (below_drew (Below.refl w6.heap.size w6))
        have hsc : (Tryd.prog.info? 26).map (·.size) = some (c.map byt).length := by rw [size26, List.length_map, hc32.out]
        have hsd : (Tryd.prog.info? 26).map (·.size) = some (d.map byt).length := by rw [size26, List.length_map, hd32.out]
        refine wp_region_held_drew (S := fun w' => w'.rangeAt h 0 (d.map byt)) (by kernel_rfl) hRD (fun hHeld => ?_)
        refine take_at (i := 1) (k := 23) (v := dgv d) rfl rfl (by kernel_rfl) (by kernel_rfl) (by kernel_rfl) (fun _ _ _ h => h) (yieldsIf_load_mid (by rfl) 26 (.tmp 8) rfl h 0 rfl (d.map byt) _ (fun w' h => h) Tryd.underlying26 rfl hsd) hHeld ?_
        try simp only [Act.put, List.setIfInBounds_toArray, List.set_cons_zero, List.set_cons_succ]
        refine take_at (i := 4) (k := 26) (v := dgv d) rfl rfl (by kernel_rfl) (by kernel_rfl) (by kernel_rfl) (fun _ _ _ h => h) (yieldsIf_load_mid (by rfl) 26 (.tmp 8) rfl h 0 rfl (d.map byt) _ (fun w' h => h) Tryd.underlying26 rfl hsd) hHeld ?_
        try simp only [Act.put, List.setIfInBounds_toArray, List.set_cons_zero, List.set_cons_succ]
        clear hHeld
        refine wpAnyH_ready (rs := [0, 3]) (by kernel_rfl) (by simp) ?_
        refine AllReadyH.cons rfl (fun K hK => ?_) (AllReadyH.cons rfl (fun K hK => ?_) AllReadyH.nil)
        · rw [if_pos (by rfl)]
          refine wp_load_mid 26 (.tmp 5) rfl ge 0 rfl (c.map byt) _ (dg_range (E6.out.below B7.out)) Tryd.underlying26 rfl hsc ?_
          refine hK.out _ _ (range_below hRD B7.out) (fun _ => ?_)
          try simp only [Act.put, List.setIfInBounds_toArray, List.set_cons_zero, List.set_cons_succ]
          clear hK K
          refine wpAnyH_ready (rs := [2, 3]) (by kernel_rfl) (by simp) ?_
          refine AllReadyH.cons rfl (fun K hK => ?_) (AllReadyH.cons rfl (fun K hK => ?_) AllReadyH.nil)
          · rw [if_pos (by rfl)]
            go_simp
            go_at_call 25
            refine (chain_any c d w6.drew hc32.out hd32.out (K6.out.below B7.out)).mono ?_
            rintro e V2 ⟨rfl, hbe⟩
            have BV2 := Lib.hid (B7.out.trans (hbe.mono B7.out.size))
            clear hbe
            refine hK.out _ _ (range_below hRD BV2.out) (fun _ => ?_)
            try simp only [Act.put, List.setIfInBounds_toArray, List.set_cons_zero, List.set_cons_succ]
            clear hK K
            refine wpAnyH_ready (rs := [3]) (by kernel_rfl) (by simp) ?_
            refine AllReadyH.cons rfl (fun K hK => ?_) AllReadyH.nil
            rw [if_pos (by rfl)]
            refine wp_load_mid 26 (.tmp 6) rfl gw 0 rfl (c.map byt) _ (dg_range (W6.out.below BV2.out)) Tryd.underlying26 rfl hsc ?_
            refine hK.out _ _ (range_below hRD BV2.out) (fun _ => ?_)
            try simp only [Act.put, List.setIfInBounds_toArray, List.set_cons_zero, List.set_cons_succ]
            clear hK K
            refine wpAnyH_ready (rs := [5]) (by kernel_rfl) (by simp) ?_
            refine AllReadyH.cons rfl (fun K hK => ?_) AllReadyH.nil
            rw [if_pos (by rfl)]
            go_simp
            go_at_call 26
            refine (rchain_any c d V2 hc32.out hd32.out).mono ?_
            rintro e V4 ⟨rfl, hbe⟩
            have BV4 := Lib.hid (BV2.out.trans (hbe.mono BV2.out.size))
            clear hbe
            refine hK.out _ _ (range_below hRD BV4.out) (fun _ => ?_)
            try simp only [Act.put, List.setIfInBounds_toArray, List.set_cons_zero, List.set_cons_succ]
            clear hK K
            refine wpAnyH_ready (rs := [6]) (by kernel_rfl) (by simp) ?_
            refine AllReadyH.cons rfl (fun K hK => ?_) AllReadyH.nil
            rw [if_pos (by rfl)]
            refine wp_st (.tmp 5) (.tmp 24) rfl rfl ge c (tg (bts sChain) (c ++ d)) (E6.out.below BV4.out) hc32.out (tg_len _ _) rfl rfl ?_
            intro V5 DE6 hc6
            have hr6 : V5.rangeAt h 0 (d.map byt) := dg_range ((hc6.block h (Nat.lt_of_lt_of_le hme6 BV4.out.size) hme).trans (D6.out.below BV4.out))
            have DW6 : Hid (Dg V5 gw c) := Lib.hid ((hc6.block gw (Nat.lt_of_lt_of_le hgw6 BV4.out.size) (Ne.symm hne)).trans (W6.out.below BV4.out))
            refine hK.out _ _ hr6 (fun _ => ?_)
            try simp only [Act.put, List.setIfInBounds_toArray, List.set_cons_zero, List.set_cons_succ]
            clear hK K
            refine wpAnyH_ready (rs := [7]) (by kernel_rfl) (by simp) ?_
            refine AllReadyH.cons rfl (fun K hK => ?_) AllReadyH.nil
            rw [if_pos (by rfl)]
            refine wp_st (.tmp 6) (.tmp 27) rfl rfl gw c (tg (bts sChain) (c ++ d)) DW6.out hc32.out (tg_len _ _) rfl rfl ?_
            intro V6 DW7 hc7
            have hy6 := hc6.size
            have hr7 : V6.rangeAt h 0 (d.map byt) := dg_range ((hc7.block h (Nat.lt_of_lt_of_le (Nat.lt_of_lt_of_le hme6 BV4.out.size) hc6.size) hmw).trans ((hc6.block h (Nat.lt_of_lt_of_le hme6 BV4.out.size) hme).trans (D6.out.below BV4.out)))
            have DE7 : Hid (Dg V6 ge (tg (bts sChain) (c ++ d))) := Lib.hid ((hc7.block ge (Nat.lt_of_lt_of_le (Nat.lt_of_lt_of_le hge6 BV4.out.size) hc6.size) hne).trans DE6.out)
            refine hK.out _ _ hr7 (fun _ => ?_)
            try simp only [Act.put, List.setIfInBounds_toArray, List.set_cons_zero, List.set_cons_succ]
            clear hK K
            have D7 : Hid (Dg V6 h d) := Lib.hid ((hc7.block h (Nat.lt_of_lt_of_le (Nat.lt_of_lt_of_le hme6 BV4.out.size) hc6.size) hmw).trans ((hc6.block h (Nat.lt_of_lt_of_le hme6 BV4.out.size) hme).trans (D6.out.below BV4.out)))
            have C7 : Hid (Dg V6 g9 c) := Lib.hid ((hc7.block g9 (Nat.lt_of_lt_of_le (Nat.lt_of_lt_of_le hlt6 BV4.out.size) hc6.size) hcw).trans ((hc6.block g9 (Nat.lt_of_lt_of_le hlt6 BV4.out.size) hce).trans (C6.out.below BV4.out)))
            have L7 := Lib.hid (ld_chg (ld_chg (L6.out.below BV4.out) hc6 (fun a e => (hne5.out a e).1)) hc7 (fun a e => (hne5.out a e).2))
            have B8 := Lib.hid (Chg.below (Chg.below (B6.out.trans (BV4.out.mono B6.out.size)) (Nat.le_trans hmz BV4.out.size) hmE hc6) (Nat.le_trans (Nat.le_trans hmz BV4.out.size) hc6.size) hmW hc7)
            clear hr6 hr7 hc6 hc7 hy6 DW6 DE6
            refine wpAnyH_done (by kernel_rfl) ?_ _
            have K8 := Lib.hid (HK.out.below B8.out)
            have hx32 : Hid ((tg (bts sChain) (c ++ d)).length = 32) := Lib.hid (tg_len _ _)
            have hcx : Hid (tg (bts sChain) (([] ++ c) ++ d) = tg (bts sChain) (c ++ d)) := Lib.hid (by rw [List.nil_append])
            clear hRD E6 W6 D6 C6 L6 B6 K6 B7
            generalize tg (bts sChain) (c ++ d) = x at *
            have heq : ∀ w, (Op.equalIn 10000 26 (dgv x) (dgv x)).run Tryd.prog w = .ok true w := fun w => by rw [dg_equal _ _ hx32.out hx32.out, beq_self_eq_true]
            have hsx : (Tryd.prog.info? 26).map (·.size) = some (x.map byt).length := by rw [size26, List.length_map, hx32.out]
            have hRE := dg_range DE7.out
            have hRW := dg_range DW7.out
            go_wp2_with fail
            have A0 := Lib.hid (below_drew (Below.refl V6.heap.size V6))
            refine wp_region_held_drew (S := fun w' => w'.rangeAt ge 0 (x.map byt) ∧ w'.rangeAt gw 0 (x.map byt)) (by kernel_rfl) ⟨hRE, hRW⟩ (fun hHeld => ?_)
            refine take_at (i := 0) (k := 28) (v := dgv x) rfl rfl (by kernel_rfl) (by kernel_rfl) (by kernel_rfl) (fun _ _ _ h => h) (yieldsIf_load_mid (by rfl) 26 (.tmp 5) rfl ge 0 rfl (x.map byt) _ (fun w' h => h.1) Tryd.underlying26 rfl hsx) hHeld ?_
            try simp only [Act.put, List.setIfInBounds_toArray, List.set_cons_zero, List.set_cons_succ]
            refine take_at (i := 1) (k := 29) (v := dgv x) rfl rfl (by kernel_rfl) (by kernel_rfl) (by kernel_rfl) (fun _ _ _ h => h) (yieldsIf_load_mid (by rfl) 26 (.tmp 6) rfl gw 0 rfl (x.map byt) _ (fun w' h => h.2) Tryd.underlying26 rfl hsx) hHeld ?_
            try simp only [Act.put, List.setIfInBounds_toArray, List.set_cons_zero, List.set_cons_succ]
            refine take_at (i := 2) (k := 30) (v := .bool false) rfl rfl (by kernel_rfl) (by kernel_rfl) (by kernel_rfl) (fun _ _ _ h => h) (Or.inl ⟨by rfl, fun w _ => by go_simp⟩) hHeld ?_
            try simp only [Act.put, List.setIfInBounds_toArray, List.set_cons_zero, List.set_cons_succ]
            refine take_at (i := 3) (k := 31) (v := .bool false) rfl rfl (by kernel_rfl) (by kernel_rfl) (by kernel_rfl) (fun _ _ _ h => h) (Or.inl ⟨by rfl, fun w _ => rfl⟩) hHeld ?_
            try simp only [Act.put, List.setIfInBounds_toArray, List.set_cons_zero, List.set_cons_succ]
            refine take_at (i := 4) (k := 32) (v := dgv x) rfl rfl (by kernel_rfl) (by kernel_rfl) (by kernel_rfl) (fun _ _ _ h => h) (yieldsIf_load_mid (by rfl) 26 (.tmp 5) rfl ge 0 rfl (x.map byt) _ (fun w' h => h.1) Tryd.underlying26 rfl hsx) hHeld ?_
            try simp only [Act.put, List.setIfInBounds_toArray, List.set_cons_zero, List.set_cons_succ]
            refine take_at (i := 6) (k := 34) (v := .slice (some ⟨g9, 0, none⟩) 32 32) rfl rfl (by kernel_rfl) (by kernel_rfl) (by kernel_rfl) (fun _ _ _ h => h) (Or.inl ⟨by rfl, fun w _ => by go_simp⟩) hHeld ?_
            try simp only [Act.put, List.setIfInBounds_toArray, List.set_cons_zero, List.set_cons_succ]
            refine take_at (i := 8) (k := 36) (v := .slice (some ⟨h, 0, none⟩) 32 32) rfl rfl (by kernel_rfl) (by kernel_rfl) (by kernel_rfl) (fun _ _ _ h => h) (Or.inl ⟨by rfl, fun w _ => by go_simp⟩) hHeld ?_
            try simp only [Act.put, List.setIfInBounds_toArray, List.set_cons_zero, List.set_cons_succ]
            clear hHeld
            refine wpAnyH_ready (rs := [5]) (by kernel_rfl) (by simp) ?_
            refine AllReadyH.cons rfl (fun K hK => ?_) AllReadyH.nil
            rw [if_pos (by rfl)]
            refine wp_b0b rfl rfl ?_
            intro A1 g11 hbe11 hge11 hlt11 O11
            have A1B := Lib.hid (A0.out.trans (hbe11.mono A0.out.size))
            have hz11 := A0.out.size
            have ob11 : ∀ j, (Value.slice (some ⟨g11, 0, none⟩) 0 0).ownBlock = some j → V6.heap.size ≤ j := fun j e => by
              have e' : g11 = j := Option.some.inj e
              subst e'
              exact Nat.le_trans hz11 hge11
            clear hbe11
            refine hK.out _ _ ⟨range_below hRE A1B.out, range_below hRW A1B.out⟩ (fun _ => ?_)
            try simp only [Act.put, List.setIfInBounds_toArray, List.set_cons_zero, List.set_cons_succ]
            clear hK K
            refine wpAnyH_ready (rs := [7]) (by kernel_rfl) (by simp) ?_
            refine AllReadyH.cons rfl (fun K hK => ?_) AllReadyH.nil
            rw [if_pos (by rfl)]
            refine wp_apb rfl (.tmp 33) (.tmp 34) rfl (.slice (some ⟨g11, 0, none⟩) 0 0) (.slice (some ⟨g9, 0, none⟩) 32 32) ([] : List UInt8) c rfl O11.out rfl (dg_bv (C7.out.below A1B.out) hc32.out) (by simp [hc32.out]) ?_
            intro v12 A2 O12 hg12 hv12
            have A2B := Lib.hid (grown_below A1B.out A1B.out.size hg12 ob11)
            have ob12 := own_grown_lt ob11 A1B.out.size hv12
            clear hg12 hv12
            refine hK.out _ _ ⟨range_below hRE A2B.out, range_below hRW A2B.out⟩ (fun _ => ?_)
            try simp only [Act.put, List.setIfInBounds_toArray, List.set_cons_zero, List.set_cons_succ]
            clear hK K
            refine wpAnyH_ready (rs := [9]) (by kernel_rfl) (by simp) ?_
            refine AllReadyH.cons rfl (fun K hK => ?_) AllReadyH.nil
            rw [if_pos (by rfl)]
            refine wp_apb rfl (.tmp 35) (.tmp 36) rfl v12 (.slice (some ⟨h, 0, none⟩) 32 32) ([] ++ c) d rfl O12.out rfl (dg_bv (D7.out.below A2B.out) hd32.out) (by simp [hc32.out, hd32.out]) ?_
            intro v13 A3 O13 hg13 hv13
            have A3B := Lib.hid (grown_below A2B.out A2B.out.size hg13 ob12)
            clear hg13 hv13
            refine hK.out _ _ ⟨range_below hRE A3B.out, range_below hRW A3B.out⟩ (fun _ => ?_)
            try simp only [Act.put, List.setIfInBounds_toArray, List.set_cons_zero, List.set_cons_succ]
            clear hK K
            refine wpAnyH_ready (rs := [10]) (by kernel_rfl) (by simp) ?_
            refine AllReadyH.cons rfl (fun K hK => ?_) AllReadyH.nil
            rw [if_pos (by rfl)]
            go_simp
            go_at_call 14
            refine (tagged_any sChain v13 (([] ++ c) ++ d) A3 (by decide) (own_bv O13.out) (by simp [hc32.out, hd32.out]) (K8.out.below A3B.out)).mono ?_
            rintro e A4 ⟨rfl, hbe14⟩
            rw [hcx.out]
            have A4B := Lib.hid (A3B.out.trans (hbe14.mono A3B.out.size))
            clear hbe14
            have hHeld : A4.rangeAt ge 0 (x.map byt) ∧ A4.rangeAt gw 0 (x.map byt) := ⟨range_below hRE A4B.out, range_below hRW A4B.out⟩
            refine hK.out _ _ hHeld (fun _ => ?_)
            try simp only [Act.put, List.setIfInBounds_toArray, List.set_cons_zero, List.set_cons_succ]
            clear hK K
            refine take_at (i := 11) (k := 39) (v := .bool false) rfl rfl (by kernel_rfl) (by kernel_rfl) (by kernel_rfl) (fun _ _ _ h => h) (Or.inl ⟨by rfl, fun w _ => by go_simp⟩) hHeld ?_
            try simp only [Act.put, List.setIfInBounds_toArray, List.set_cons_zero, List.set_cons_succ]
            refine take_at (i := 12) (k := 40) (v := .bool false) rfl rfl (by kernel_rfl) (by kernel_rfl) (by kernel_rfl) (fun _ _ _ h => h) (Or.inl ⟨by rfl, fun w _ => rfl⟩) hHeld ?_
            try simp only [Act.put, List.setIfInBounds_toArray, List.set_cons_zero, List.set_cons_succ]
            refine wpAnyH_done (by kernel_rfl) ?_ _
            clear hHeld hRE hRW
            go_wp2_with fail
            go_roundw
            case rel => exact ⟨k + 1, x, by omega, by go_num, hx32, Lib.hid (DE7.out.below A4B.out), Lib.hid (DW7.out.below A4B.out), Lib.hid (L7.out.below A4B.out), Lib.hid (B8.out.trans (A4B.out.mono B8.out.size))⟩
            case measure => simp [intOf]; omega
          · rw [if_pos (by rfl)]
            refine wp_load_mid 26 (.tmp 6) rfl gw 0 rfl (c.map byt) _ (dg_range (W6.out.below B7.out)) Tryd.underlying26 rfl hsc ?_
            refine hK.out _ _ (range_below hRD B7.out) (fun _ => ?_)
            try simp only [Act.put, List.setIfInBounds_toArray, List.set_cons_zero, List.set_cons_succ]
            clear hK K
            refine wpAnyH_ready (rs := [2]) (by kernel_rfl) (by simp) ?_
            refine AllReadyH.cons rfl (fun K hK => ?_) AllReadyH.nil
            rw [if_pos (by rfl)]
            go_simp
            go_at_call 25
            refine (chain_any c d w6.drew hc32.out hd32.out (K6.out.below B7.out)).mono ?_
            rintro e V8 ⟨rfl, hbe⟩
            have BV8 := Lib.hid (B7.out.trans (hbe.mono B7.out.size))
            clear hbe
            refine hK.out _ _ (range_below hRD BV8.out) (fun _ => ?_)
            try simp only [Act.put, List.setIfInBounds_toArray, List.set_cons_zero, List.set_cons_succ]
            clear hK K
            refine wpAnyH_ready (rs := [5]) (by kernel_rfl) (by simp) ?_
            refine AllReadyH.cons rfl (fun K hK => ?_) AllReadyH.nil
            rw [if_pos (by rfl)]
            go_simp
            go_at_call 26
            refine (rchain_any c d V8 hc32.out hd32.out).mono ?_
            rintro e V9 ⟨rfl, hbe⟩
            have BV9 := Lib.hid (BV8.out.trans (hbe.mono BV8.out.size))
            clear hbe
            refine hK.out _ _ (range_below hRD BV9.out) (fun _ => ?_)
            try simp only [Act.put, List.setIfInBounds_toArray, List.set_cons_zero, List.set_cons_succ]
            clear hK K
            refine wpAnyH_ready (rs := [6]) (by kernel_rfl) (by simp) ?_
            refine AllReadyH.cons rfl (fun K hK => ?_) AllReadyH.nil
            rw [if_pos (by rfl)]
            refine wp_st (.tmp 5) (.tmp 24) rfl rfl ge c (tg (bts sChain) (c ++ d)) (E6.out.below BV9.out) hc32.out (tg_len _ _) rfl rfl ?_
            intro V10 DE6 hc6
            have hr6 : V10.rangeAt h 0 (d.map byt) := dg_range ((hc6.block h (Nat.lt_of_lt_of_le hme6 BV9.out.size) hme).trans (D6.out.below BV9.out))
            have DW6 : Hid (Dg V10 gw c) := Lib.hid ((hc6.block gw (Nat.lt_of_lt_of_le hgw6 BV9.out.size) (Ne.symm hne)).trans (W6.out.below BV9.out))
            refine hK.out _ _ hr6 (fun _ => ?_)
            try simp only [Act.put, List.setIfInBounds_toArray, List.set_cons_zero, List.set_cons_succ]
            clear hK K
            refine wpAnyH_ready (rs := [7]) (by kernel_rfl) (by simp) ?_
            refine AllReadyH.cons rfl (fun K hK => ?_) AllReadyH.nil
            rw [if_pos (by rfl)]
            refine wp_st (.tmp 6) (.tmp 27) rfl rfl gw c (tg (bts sChain) (c ++ d)) DW6.out hc32.out (tg_len _ _) rfl rfl ?_
            intro V11 DW7 hc7
            have hy6 := hc6.size
            have hr7 : V11.rangeAt h 0 (d.map byt) := dg_range ((hc7.block h (Nat.lt_of_lt_of_le (Nat.lt_of_lt_of_le hme6 BV9.out.size) hc6.size) hmw).trans ((hc6.block h (Nat.lt_of_lt_of_le hme6 BV9.out.size) hme).trans (D6.out.below BV9.out)))
            have DE7 : Hid (Dg V11 ge (tg (bts sChain) (c ++ d))) := Lib.hid ((hc7.block ge (Nat.lt_of_lt_of_le (Nat.lt_of_lt_of_le hge6 BV9.out.size) hc6.size) hne).trans DE6.out)
            refine hK.out _ _ hr7 (fun _ => ?_)
            try simp only [Act.put, List.setIfInBounds_toArray, List.set_cons_zero, List.set_cons_succ]
            clear hK K
            have D7 : Hid (Dg V11 h d) := Lib.hid ((hc7.block h (Nat.lt_of_lt_of_le (Nat.lt_of_lt_of_le hme6 BV9.out.size) hc6.size) hmw).trans ((hc6.block h (Nat.lt_of_lt_of_le hme6 BV9.out.size) hme).trans (D6.out.below BV9.out)))
            have C7 : Hid (Dg V11 g9 c) := Lib.hid ((hc7.block g9 (Nat.lt_of_lt_of_le (Nat.lt_of_lt_of_le hlt6 BV9.out.size) hc6.size) hcw).trans ((hc6.block g9 (Nat.lt_of_lt_of_le hlt6 BV9.out.size) hce).trans (C6.out.below BV9.out)))
            have L7 := Lib.hid (ld_chg (ld_chg (L6.out.below BV9.out) hc6 (fun a e => (hne5.out a e).1)) hc7 (fun a e => (hne5.out a e).2))
            have B8 := Lib.hid (Chg.below (Chg.below (B6.out.trans (BV9.out.mono B6.out.size)) (Nat.le_trans hmz BV9.out.size) hmE hc6) (Nat.le_trans (Nat.le_trans hmz BV9.out.size) hc6.size) hmW hc7)
            clear hr6 hr7 hc6 hc7 hy6 DW6 DE6
            refine wpAnyH_done (by kernel_rfl) ?_ _
            have K8 := Lib.hid (HK.out.below B8.out)
            have hx32 : Hid ((tg (bts sChain) (c ++ d)).length = 32) := Lib.hid (tg_len _ _)
            have hcx : Hid (tg (bts sChain) (([] ++ c) ++ d) = tg (bts sChain) (c ++ d)) := Lib.hid (by rw [List.nil_append])
            clear hRD E6 W6 D6 C6 L6 B6 K6 B7
            generalize tg (bts sChain) (c ++ d) = x at *
            have heq : ∀ w, (Op.equalIn 10000 26 (dgv x) (dgv x)).run Tryd.prog w = .ok true w := fun w => by rw [dg_equal _ _ hx32.out hx32.out, beq_self_eq_true]
            have hsx : (Tryd.prog.info? 26).map (·.size) = some (x.map byt).length := by rw [size26, List.length_map, hx32.out]
            have hRE := dg_range DE7.out
            have hRW := dg_range DW7.out
            go_wp2_with fail
            have A0 := Lib.hid (below_drew (Below.refl V11.heap.size V11))
            refine wp_region_held_drew (S := fun w' => w'.rangeAt ge 0 (x.map byt) ∧ w'.rangeAt gw 0 (x.map byt)) (by kernel_rfl) ⟨hRE, hRW⟩ (fun hHeld => ?_)
            refine take_at (i := 0) (k := 28) (v := dgv x) rfl rfl (by kernel_rfl) (by kernel_rfl) (by kernel_rfl) (fun _ _ _ h => h) (yieldsIf_load_mid (by rfl) 26 (.tmp 5) rfl ge 0 rfl (x.map byt) _ (fun w' h => h.1) Tryd.underlying26 rfl hsx) hHeld ?_
            try simp only [Act.put, List.setIfInBounds_toArray, List.set_cons_zero, List.set_cons_succ]
            refine take_at (i := 1) (k := 29) (v := dgv x) rfl rfl (by kernel_rfl) (by kernel_rfl) (by kernel_rfl) (fun _ _ _ h => h) (yieldsIf_load_mid (by rfl) 26 (.tmp 6) rfl gw 0 rfl (x.map byt) _ (fun w' h => h.2) Tryd.underlying26 rfl hsx) hHeld ?_
            try simp only [Act.put, List.setIfInBounds_toArray, List.set_cons_zero, List.set_cons_succ]
            refine take_at (i := 2) (k := 30) (v := .bool false) rfl rfl (by kernel_rfl) (by kernel_rfl) (by kernel_rfl) (fun _ _ _ h => h) (Or.inl ⟨by rfl, fun w _ => by go_simp⟩) hHeld ?_
            try simp only [Act.put, List.setIfInBounds_toArray, List.set_cons_zero, List.set_cons_succ]
            refine take_at (i := 3) (k := 31) (v := .bool false) rfl rfl (by kernel_rfl) (by kernel_rfl) (by kernel_rfl) (fun _ _ _ h => h) (Or.inl ⟨by rfl, fun w _ => rfl⟩) hHeld ?_
            try simp only [Act.put, List.setIfInBounds_toArray, List.set_cons_zero, List.set_cons_succ]
            refine take_at (i := 4) (k := 32) (v := dgv x) rfl rfl (by kernel_rfl) (by kernel_rfl) (by kernel_rfl) (fun _ _ _ h => h) (yieldsIf_load_mid (by rfl) 26 (.tmp 5) rfl ge 0 rfl (x.map byt) _ (fun w' h => h.1) Tryd.underlying26 rfl hsx) hHeld ?_
            try simp only [Act.put, List.setIfInBounds_toArray, List.set_cons_zero, List.set_cons_succ]
            refine take_at (i := 6) (k := 34) (v := .slice (some ⟨g9, 0, none⟩) 32 32) rfl rfl (by kernel_rfl) (by kernel_rfl) (by kernel_rfl) (fun _ _ _ h => h) (Or.inl ⟨by rfl, fun w _ => by go_simp⟩) hHeld ?_
            try simp only [Act.put, List.setIfInBounds_toArray, List.set_cons_zero, List.set_cons_succ]
            refine take_at (i := 8) (k := 36) (v := .slice (some ⟨h, 0, none⟩) 32 32) rfl rfl (by kernel_rfl) (by kernel_rfl) (by kernel_rfl) (fun _ _ _ h => h) (Or.inl ⟨by rfl, fun w _ => by go_simp⟩) hHeld ?_
            try simp only [Act.put, List.setIfInBounds_toArray, List.set_cons_zero, List.set_cons_succ]
            clear hHeld
            refine wpAnyH_ready (rs := [5]) (by kernel_rfl) (by simp) ?_
            refine AllReadyH.cons rfl (fun K hK => ?_) AllReadyH.nil
            rw [if_pos (by rfl)]
            refine wp_b0b rfl rfl ?_
            intro A1 g11 hbe11 hge11 hlt11 O11
            have A1B := Lib.hid (A0.out.trans (hbe11.mono A0.out.size))
            have hz11 := A0.out.size
            have ob11 : ∀ j, (Value.slice (some ⟨g11, 0, none⟩) 0 0).ownBlock = some j → V11.heap.size ≤ j := fun j e => by
              have e' : g11 = j := Option.some.inj e
              subst e'
              exact Nat.le_trans hz11 hge11
            clear hbe11
            refine hK.out _ _ ⟨range_below hRE A1B.out, range_below hRW A1B.out⟩ (fun _ => ?_)
            try simp only [Act.put, List.setIfInBounds_toArray, List.set_cons_zero, List.set_cons_succ]
            clear hK K
            refine wpAnyH_ready (rs := [7]) (by kernel_rfl) (by simp) ?_
            refine AllReadyH.cons rfl (fun K hK => ?_) AllReadyH.nil
            rw [if_pos (by rfl)]
            refine wp_apb rfl (.tmp 33) (.tmp 34) rfl (.slice (some ⟨g11, 0, none⟩) 0 0) (.slice (some ⟨g9, 0, none⟩) 32 32) ([] : List UInt8) c rfl O11.out rfl (dg_bv (C7.out.below A1B.out) hc32.out) (by simp [hc32.out]) ?_
            intro v12 A2 O12 hg12 hv12
            have A2B := Lib.hid (grown_below A1B.out A1B.out.size hg12 ob11)
            have ob12 := own_grown_lt ob11 A1B.out.size hv12
            clear hg12 hv12
            refine hK.out _ _ ⟨range_below hRE A2B.out, range_below hRW A2B.out⟩ (fun _ => ?_)
            try simp only [Act.put, List.setIfInBounds_toArray, List.set_cons_zero, List.set_cons_succ]
            clear hK K
            refine wpAnyH_ready (rs := [9]) (by kernel_rfl) (by simp) ?_
            refine AllReadyH.cons rfl (fun K hK => ?_) AllReadyH.nil
            rw [if_pos (by rfl)]
            refine wp_apb rfl (.tmp 35) (.tmp 36) rfl v12 (.slice (some ⟨h, 0, none⟩) 32 32) ([] ++ c) d rfl O12.out rfl (dg_bv (D7.out.below A2B.out) hd32.out) (by simp [hc32.out, hd32.out]) ?_
            intro v13 A3 O13 hg13 hv13
            have A3B := Lib.hid (grown_below A2B.out A2B.out.size hg13 ob12)
            clear hg13 hv13
            refine hK.out _ _ ⟨range_below hRE A3B.out, range_below hRW A3B.out⟩ (fun _ => ?_)
            try simp only [Act.put, List.setIfInBounds_toArray, List.set_cons_zero, List.set_cons_succ]
            clear hK K
            refine wpAnyH_ready (rs := [10]) (by kernel_rfl) (by simp) ?_
            refine AllReadyH.cons rfl (fun K hK => ?_) AllReadyH.nil
            rw [if_pos (by rfl)]
            go_simp
            go_at_call 14
            refine (tagged_any sChain v13 (([] ++ c) ++ d) A3 (by decide) (own_bv O13.out) (by simp [hc32.out, hd32.out]) (K8.out.below A3B.out)).mono ?_
            rintro e A4 ⟨rfl, hbe14⟩
            rw [hcx.out]
            have A4B := Lib.hid (A3B.out.trans (hbe14.mono A3B.out.size))
            clear hbe14
            have hHeld : A4.rangeAt ge 0 (x.map byt) ∧ A4.rangeAt gw 0 (x.map byt) := ⟨range_below hRE A4B.out, range_below hRW A4B.out⟩
            refine hK.out _ _ hHeld (fun _ => ?_)
            try simp only [Act.put, List.setIfInBounds_toArray, List.set_cons_zero, List.set_cons_succ]
            clear hK K
            refine take_at (i := 11) (k := 39) (v := .bool false) rfl rfl (by kernel_rfl) (by kernel_rfl) (by kernel_rfl) (fun _ _ _ h => h) (Or.inl ⟨by rfl, fun w _ => by go_simp⟩) hHeld ?_
            try simp only [Act.put, List.setIfInBounds_toArray, List.set_cons_zero, List.set_cons_succ]
            refine take_at (i := 12) (k := 40) (v := .bool false) rfl rfl (by kernel_rfl) (by kernel_rfl) (by kernel_rfl) (fun _ _ _ h => h) (Or.inl ⟨by rfl, fun w _ => rfl⟩) hHeld ?_
            try simp only [Act.put, List.setIfInBounds_toArray, List.set_cons_zero, List.set_cons_succ]
            refine wpAnyH_done (by kernel_rfl) ?_ _
            clear hHeld hRE hRW
            go_wp2_with fail
            go_roundw
            case rel => exact ⟨k + 1, x, by omega, by go_num, hx32, Lib.hid (DE7.out.below A4B.out), Lib.hid (DW7.out.below A4B.out), Lib.hid (L7.out.below A4B.out), Lib.hid (B8.out.trans (A4B.out.mono B8.out.size))⟩
            case measure => simp [intOf]; omega
        · rw [if_pos (by rfl)]
          refine wp_load_mid 26 (.tmp 6) rfl gw 0 rfl (c.map byt) _ (dg_range (W6.out.below B7.out)) Tryd.underlying26 rfl hsc ?_
          refine hK.out _ _ (range_below hRD B7.out) (fun _ => ?_)
          try simp only [Act.put, List.setIfInBounds_toArray, List.set_cons_zero, List.set_cons_succ]
          clear hK K
          refine wpAnyH_ready (rs := [0]) (by kernel_rfl) (by simp) ?_
          refine AllReadyH.cons rfl (fun K hK => ?_) AllReadyH.nil
          rw [if_pos (by rfl)]
          refine wp_load_mid 26 (.tmp 5) rfl ge 0 rfl (c.map byt) _ (dg_range (E6.out.below B7.out)) Tryd.underlying26 rfl hsc ?_
          refine hK.out _ _ (range_below hRD B7.out) (fun _ => ?_)
          try simp only [Act.put, List.setIfInBounds_toArray, List.set_cons_zero, List.set_cons_succ]
          clear hK K
          refine wpAnyH_ready (rs := [2]) (by kernel_rfl) (by simp) ?_
          refine AllReadyH.cons rfl (fun K hK => ?_) AllReadyH.nil
          rw [if_pos (by rfl)]
          go_simp
          go_at_call 25
          refine (chain_any c d w6.drew hc32.out hd32.out (K6.out.below B7.out)).mono ?_
          rintro e V14 ⟨rfl, hbe⟩
          have BV14 := Lib.hid (B7.out.trans (hbe.mono B7.out.size))
          clear hbe
          refine hK.out _ _ (range_below hRD BV14.out) (fun _ => ?_)
          try simp only [Act.put, List.setIfInBounds_toArray, List.set_cons_zero, List.set_cons_succ]
          clear hK K
          refine wpAnyH_ready (rs := [5]) (by kernel_rfl) (by simp) ?_
          refine AllReadyH.cons rfl (fun K hK => ?_) AllReadyH.nil
          rw [if_pos (by rfl)]
          go_simp
          go_at_call 26
          refine (rchain_any c d V14 hc32.out hd32.out).mono ?_
          rintro e V15 ⟨rfl, hbe⟩
          have BV15 := Lib.hid (BV14.out.trans (hbe.mono BV14.out.size))
          clear hbe
          refine hK.out _ _ (range_below hRD BV15.out) (fun _ => ?_)
          try simp only [Act.put, List.setIfInBounds_toArray, List.set_cons_zero, List.set_cons_succ]
          clear hK K
          refine wpAnyH_ready (rs := [6]) (by kernel_rfl) (by simp) ?_
          refine AllReadyH.cons rfl (fun K hK => ?_) AllReadyH.nil
          rw [if_pos (by rfl)]
          refine wp_st (.tmp 5) (.tmp 24) rfl rfl ge c (tg (bts sChain) (c ++ d)) (E6.out.below BV15.out) hc32.out (tg_len _ _) rfl rfl ?_
          intro V16 DE6 hc6
          have hr6 : V16.rangeAt h 0 (d.map byt) := dg_range ((hc6.block h (Nat.lt_of_lt_of_le hme6 BV15.out.size) hme).trans (D6.out.below BV15.out))
          have DW6 : Hid (Dg V16 gw c) := Lib.hid ((hc6.block gw (Nat.lt_of_lt_of_le hgw6 BV15.out.size) (Ne.symm hne)).trans (W6.out.below BV15.out))
          refine hK.out _ _ hr6 (fun _ => ?_)
          try simp only [Act.put, List.setIfInBounds_toArray, List.set_cons_zero, List.set_cons_succ]
          clear hK K
          refine wpAnyH_ready (rs := [7]) (by kernel_rfl) (by simp) ?_
          refine AllReadyH.cons rfl (fun K hK => ?_) AllReadyH.nil
          rw [if_pos (by rfl)]
          refine wp_st (.tmp 6) (.tmp 27) rfl rfl gw c (tg (bts sChain) (c ++ d)) DW6.out hc32.out (tg_len _ _) rfl rfl ?_
          intro V17 DW7 hc7
          have hy6 := hc6.size
          have hr7 : V17.rangeAt h 0 (d.map byt) := dg_range ((hc7.block h (Nat.lt_of_lt_of_le (Nat.lt_of_lt_of_le hme6 BV15.out.size) hc6.size) hmw).trans ((hc6.block h (Nat.lt_of_lt_of_le hme6 BV15.out.size) hme).trans (D6.out.below BV15.out)))
          have DE7 : Hid (Dg V17 ge (tg (bts sChain) (c ++ d))) := Lib.hid ((hc7.block ge (Nat.lt_of_lt_of_le (Nat.lt_of_lt_of_le hge6 BV15.out.size) hc6.size) hne).trans DE6.out)
          refine hK.out _ _ hr7 (fun _ => ?_)
          try simp only [Act.put, List.setIfInBounds_toArray, List.set_cons_zero, List.set_cons_succ]
          clear hK K
          have D7 : Hid (Dg V17 h d) := Lib.hid ((hc7.block h (Nat.lt_of_lt_of_le (Nat.lt_of_lt_of_le hme6 BV15.out.size) hc6.size) hmw).trans ((hc6.block h (Nat.lt_of_lt_of_le hme6 BV15.out.size) hme).trans (D6.out.below BV15.out)))
          have C7 : Hid (Dg V17 g9 c) := Lib.hid ((hc7.block g9 (Nat.lt_of_lt_of_le (Nat.lt_of_lt_of_le hlt6 BV15.out.size) hc6.size) hcw).trans ((hc6.block g9 (Nat.lt_of_lt_of_le hlt6 BV15.out.size) hce).trans (C6.out.below BV15.out)))
          have L7 := Lib.hid (ld_chg (ld_chg (L6.out.below BV15.out) hc6 (fun a e => (hne5.out a e).1)) hc7 (fun a e => (hne5.out a e).2))
          have B8 := Lib.hid (Chg.below (Chg.below (B6.out.trans (BV15.out.mono B6.out.size)) (Nat.le_trans hmz BV15.out.size) hmE hc6) (Nat.le_trans (Nat.le_trans hmz BV15.out.size) hc6.size) hmW hc7)
          clear hr6 hr7 hc6 hc7 hy6 DW6 DE6
          refine wpAnyH_done (by kernel_rfl) ?_ _
          have K8 := Lib.hid (HK.out.below B8.out)
          have hx32 : Hid ((tg (bts sChain) (c ++ d)).length = 32) := Lib.hid (tg_len _ _)
          have hcx : Hid (tg (bts sChain) (([] ++ c) ++ d) = tg (bts sChain) (c ++ d)) := Lib.hid (by rw [List.nil_append])
          clear hRD E6 W6 D6 C6 L6 B6 K6 B7
          generalize tg (bts sChain) (c ++ d) = x at *
          have heq : ∀ w, (Op.equalIn 10000 26 (dgv x) (dgv x)).run Tryd.prog w = .ok true w := fun w => by rw [dg_equal _ _ hx32.out hx32.out, beq_self_eq_true]
          have hsx : (Tryd.prog.info? 26).map (·.size) = some (x.map byt).length := by rw [size26, List.length_map, hx32.out]
          have hRE := dg_range DE7.out
          have hRW := dg_range DW7.out
          go_wp2_with fail
          have A0 := Lib.hid (below_drew (Below.refl V17.heap.size V17))
          refine wp_region_held_drew (S := fun w' => w'.rangeAt ge 0 (x.map byt) ∧ w'.rangeAt gw 0 (x.map byt)) (by kernel_rfl) ⟨hRE, hRW⟩ (fun hHeld => ?_)
          refine take_at (i := 0) (k := 28) (v := dgv x) rfl rfl (by kernel_rfl) (by kernel_rfl) (by kernel_rfl) (fun _ _ _ h => h) (yieldsIf_load_mid (by rfl) 26 (.tmp 5) rfl ge 0 rfl (x.map byt) _ (fun w' h => h.1) Tryd.underlying26 rfl hsx) hHeld ?_
          try simp only [Act.put, List.setIfInBounds_toArray, List.set_cons_zero, List.set_cons_succ]
          refine take_at (i := 1) (k := 29) (v := dgv x) rfl rfl (by kernel_rfl) (by kernel_rfl) (by kernel_rfl) (fun _ _ _ h => h) (yieldsIf_load_mid (by rfl) 26 (.tmp 6) rfl gw 0 rfl (x.map byt) _ (fun w' h => h.2) Tryd.underlying26 rfl hsx) hHeld ?_
          try simp only [Act.put, List.setIfInBounds_toArray, List.set_cons_zero, List.set_cons_succ]
          refine take_at (i := 2) (k := 30) (v := .bool false) rfl rfl (by kernel_rfl) (by kernel_rfl) (by kernel_rfl) (fun _ _ _ h => h) (Or.inl ⟨by rfl, fun w _ => by go_simp⟩) hHeld ?_
          try simp only [Act.put, List.setIfInBounds_toArray, List.set_cons_zero, List.set_cons_succ]
          refine take_at (i := 3) (k := 31) (v := .bool false) rfl rfl (by kernel_rfl) (by kernel_rfl) (by kernel_rfl) (fun _ _ _ h => h) (Or.inl ⟨by rfl, fun w _ => rfl⟩) hHeld ?_
          try simp only [Act.put, List.setIfInBounds_toArray, List.set_cons_zero, List.set_cons_succ]
          refine take_at (i := 4) (k := 32) (v := dgv x) rfl rfl (by kernel_rfl) (by kernel_rfl) (by kernel_rfl) (fun _ _ _ h => h) (yieldsIf_load_mid (by rfl) 26 (.tmp 5) rfl ge 0 rfl (x.map byt) _ (fun w' h => h.1) Tryd.underlying26 rfl hsx) hHeld ?_
          try simp only [Act.put, List.setIfInBounds_toArray, List.set_cons_zero, List.set_cons_succ]
          refine take_at (i := 6) (k := 34) (v := .slice (some ⟨g9, 0, none⟩) 32 32) rfl rfl (by kernel_rfl) (by kernel_rfl) (by kernel_rfl) (fun _ _ _ h => h) (Or.inl ⟨by rfl, fun w _ => by go_simp⟩) hHeld ?_
          try simp only [Act.put, List.setIfInBounds_toArray, List.set_cons_zero, List.set_cons_succ]
          refine take_at (i := 8) (k := 36) (v := .slice (some ⟨h, 0, none⟩) 32 32) rfl rfl (by kernel_rfl) (by kernel_rfl) (by kernel_rfl) (fun _ _ _ h => h) (Or.inl ⟨by rfl, fun w _ => by go_simp⟩) hHeld ?_
          try simp only [Act.put, List.setIfInBounds_toArray, List.set_cons_zero, List.set_cons_succ]
          clear hHeld
          refine wpAnyH_ready (rs := [5]) (by kernel_rfl) (by simp) ?_
          refine AllReadyH.cons rfl (fun K hK => ?_) AllReadyH.nil
          rw [if_pos (by rfl)]
          refine wp_b0b rfl rfl ?_
          intro A1 g11 hbe11 hge11 hlt11 O11
          have A1B := Lib.hid (A0.out.trans (hbe11.mono A0.out.size))
          have hz11 := A0.out.size
          have ob11 : ∀ j, (Value.slice (some ⟨g11, 0, none⟩) 0 0).ownBlock = some j → V17.heap.size ≤ j := fun j e => by
            have e' : g11 = j := Option.some.inj e
            subst e'
            exact Nat.le_trans hz11 hge11
          clear hbe11
          refine hK.out _ _ ⟨range_below hRE A1B.out, range_below hRW A1B.out⟩ (fun _ => ?_)
          try simp only [Act.put, List.setIfInBounds_toArray, List.set_cons_zero, List.set_cons_succ]
          clear hK K
          refine wpAnyH_ready (rs := [7]) (by kernel_rfl) (by simp) ?_
          refine AllReadyH.cons rfl (fun K hK => ?_) AllReadyH.nil
          rw [if_pos (by rfl)]
          refine wp_apb rfl (.tmp 33) (.tmp 34) rfl (.slice (some ⟨g11, 0, none⟩) 0 0) (.slice (some ⟨g9, 0, none⟩) 32 32) ([] : List UInt8) c rfl O11.out rfl (dg_bv (C7.out.below A1B.out) hc32.out) (by simp [hc32.out]) ?_
          intro v12 A2 O12 hg12 hv12
          have A2B := Lib.hid (grown_below A1B.out A1B.out.size hg12 ob11)
          have ob12 := own_grown_lt ob11 A1B.out.size hv12
          clear hg12 hv12
          refine hK.out _ _ ⟨range_below hRE A2B.out, range_below hRW A2B.out⟩ (fun _ => ?_)
          try simp only [Act.put, List.setIfInBounds_toArray, List.set_cons_zero, List.set_cons_succ]
          clear hK K
          refine wpAnyH_ready (rs := [9]) (by kernel_rfl) (by simp) ?_
          refine AllReadyH.cons rfl (fun K hK => ?_) AllReadyH.nil
          rw [if_pos (by rfl)]
          refine wp_apb rfl (.tmp 35) (.tmp 36) rfl v12 (.slice (some ⟨h, 0, none⟩) 32 32) ([] ++ c) d rfl O12.out rfl (dg_bv (D7.out.below A2B.out) hd32.out) (by simp [hc32.out, hd32.out]) ?_
          intro v13 A3 O13 hg13 hv13
          have A3B := Lib.hid (grown_below A2B.out A2B.out.size hg13 ob12)
          clear hg13 hv13
          refine hK.out _ _ ⟨range_below hRE A3B.out, range_below hRW A3B.out⟩ (fun _ => ?_)
          try simp only [Act.put, List.setIfInBounds_toArray, List.set_cons_zero, List.set_cons_succ]
          clear hK K
          refine wpAnyH_ready (rs := [10]) (by kernel_rfl) (by simp) ?_
          refine AllReadyH.cons rfl (fun K hK => ?_) AllReadyH.nil
          rw [if_pos (by rfl)]
          go_simp
          go_at_call 14
          refine (tagged_any sChain v13 (([] ++ c) ++ d) A3 (by decide) (own_bv O13.out) (by simp [hc32.out, hd32.out]) (K8.out.below A3B.out)).mono ?_
          rintro e A4 ⟨rfl, hbe14⟩
          rw [hcx.out]
          have A4B := Lib.hid (A3B.out.trans (hbe14.mono A3B.out.size))
          clear hbe14
          have hHeld : A4.rangeAt ge 0 (x.map byt) ∧ A4.rangeAt gw 0 (x.map byt) := ⟨range_below hRE A4B.out, range_below hRW A4B.out⟩
          refine hK.out _ _ hHeld (fun _ => ?_)
          try simp only [Act.put, List.setIfInBounds_toArray, List.set_cons_zero, List.set_cons_succ]
          clear hK K
          refine take_at (i := 11) (k := 39) (v := .bool false) rfl rfl (by kernel_rfl) (by kernel_rfl) (by kernel_rfl) (fun _ _ _ h => h) (Or.inl ⟨by rfl, fun w _ => by go_simp⟩) hHeld ?_
          try simp only [Act.put, List.setIfInBounds_toArray, List.set_cons_zero, List.set_cons_succ]
          refine take_at (i := 12) (k := 40) (v := .bool false) rfl rfl (by kernel_rfl) (by kernel_rfl) (by kernel_rfl) (fun _ _ _ h => h) (Or.inl ⟨by rfl, fun w _ => rfl⟩) hHeld ?_
          try simp only [Act.put, List.setIfInBounds_toArray, List.set_cons_zero, List.set_cons_succ]
          refine wpAnyH_done (by kernel_rfl) ?_ _
          clear hHeld hRE hRW
          go_wp2_with fail
          go_roundw
          case rel => exact ⟨k + 1, x, by omega, by go_num, hx32, Lib.hid (DE7.out.below A4B.out), Lib.hid (DW7.out.below A4B.out), Lib.hid (L7.out.below A4B.out), Lib.hid (B8.out.trans (A4B.out.mono B8.out.size))⟩
          case measure => simp [intOf]; omega
      · have c1 : ¬ ((k : Nat) : Int) < (n : Int) := by omega
        go_wp2_with fail
        go_ret
        exact ⟨rfl, hB.out⟩
  · rw [if_pos (by rfl)]
    refine wp_al rfl rfl ?_
    intro U1 gw hbe1 hgW hlt1 DW1
    have B1 := Lib.hid (B0.out.trans (hbe1.mono B0.out.size))
    have hz1 := B0.out.size
    refine hK.out _ _ (range_below hRf B1.out) (fun _ => ?_)
    try simp only [Act.put, List.setIfInBounds_toArray, List.set_cons_zero, List.set_cons_succ]
    clear hK K
    refine wpAnyH_ready (rs := [2]) (by kernel_rfl) (by simp) ?_
    refine AllReadyH.cons rfl (fun K hK => ?_) AllReadyH.nil
    rw [if_pos (by rfl)]
    refine wp_al rfl rfl ?_
    intro U2 ge hbe2 hgE hlt2 DE2
    have hz2 := B1.out.size
    have B2 := Lib.hid (B1.out.trans (hbe2.mono B1.out.size))
    have DW2 := Lib.hid (DW1.out.below hbe2)
    have hne : ge ≠ gw := by omega
    have hy2 := hbe2.size
    have hz3 := B2.out.size
    have hgE' : w1.heap.size ≤ ge := by omega
    have hgW' : w1.heap.size ≤ gw := by omega
    clear hbe1 hbe2
    refine hK.out _ _ (range_below hRf B2.out) (fun _ => ?_)
    try simp only [Act.put, List.setIfInBounds_toArray, List.set_cons_zero, List.set_cons_succ]
    clear hK K
    refine wpAnyH_ready (rs := [4]) (by kernel_rfl) (by simp) ?_
    refine AllReadyH.cons rfl (fun K hK => ?_) AllReadyH.nil
    rw [if_pos (by rfl)]
    refine wp_st (.tmp 5) (.tmp 12) rfl rfl ge zeros f DE2.out (by simp [zeros]) HF.out rfl rfl ?_
    intro U3 DE3 hc3
    have B3 := Lib.hid (Chg.below B2.out (by omega) hgE' hc3)
    have hy3 := hc3.size
    have DW3 : Hid (Dg U3 gw zeros) := Lib.hid ((hc3.block gw (by omega) (Ne.symm hne)).trans DW2.out)
    refine hK.out _ _ (range_below hRf B3.out) (fun _ => ?_)
    try simp only [Act.put, List.setIfInBounds_toArray, List.set_cons_zero, List.set_cons_succ]
    clear hK K
    refine wpAnyH_ready (rs := [5]) (by kernel_rfl) (by simp) ?_
    refine AllReadyH.cons rfl (fun K hK => ?_) AllReadyH.nil
    rw [if_pos (by rfl)]
    refine wp_st (.tmp 6) (.tmp 13) rfl rfl gw zeros f DW3.out (by simp [zeros]) HF.out rfl rfl ?_
    intro U DW hc4
    have B4 := Lib.hid (Chg.below B3.out (by omega) hgW' hc4)
    have hy4 := hc4.size
    have DE : Hid (Dg U ge f) := Lib.hid ((hc4.block ge (by omega) hne).trans DE3.out)
    refine hK.out _ _ (range_below hRf B4.out) (fun _ => ?_)
    try simp only [Act.put, List.setIfInBounds_toArray, List.set_cons_zero, List.set_cons_succ]
    clear hK K
    refine wpAnyH_done (by kernel_rfl) ?_ _
    have HBU := Lib.hid (HB1.out.trans (B4.out.mono HB1.out.size))
    have hltE : ge < U.heap.size := by omega
    have hltW : gw < U.heap.size := by omega
    have hmw := HB1.out.size
    have hmE : w.heap.size ≤ ge := by omega
    have hmW : w.heap.size ≤ gw := by omega
    clear hc3 hc4 DE3 DW3 DE2 DW2 B4 B3 B2 B1 B0 hRf hz1 hz2 hz3 hy2 hy3 hy4 hgE hgW hgE' hgW' hlt1 hlt2 hmw DW1
    go_wp2_with fail
    refine (digestsOf_any v bs U (HV.out.below HBU.out)).mono ?_
    rintro e w2 ⟨L, rfl, ho2, hb2, hob2⟩
    have hm : min bs.length 24 ≤ 24 := Nat.min_le_right _ _
    generalize hN : min bs.length 24 = n at *
    have HL2 := Lib.hid (ownN_ld (l := dof bs n) (by rw [dof_len]; exact ho2) (dof_32 bs n))
    have hLl := dof_len bs n
    have H32 := Lib.hid (dof_32 bs n)
    have HB2 := Lib.hid (HBU.out.trans (hb2.mono HBU.out.size))
    have DE2 := Lib.hid (DE.out.below hb2)
    have DW2 := Lib.hid (DW.out.below hb2)
    have hyU := hb2.size
    clear ho2 hb2 hN DE DW HBU
    generalize dof bs n = l at *
    have hform : ∃ p cap, L = .slice p n cap ∧ n ≤ cap ∧ cap ≤ maxLen := by
      obtain ⟨b, cap, p, rfl, h1, h2, h3, h4⟩ := HL2.out
      exact ⟨p, cap, by rw [hLl], by omega, h2⟩
    obtain ⟨p, cap, rfl, hcap, hmax⟩ := hform
    unfold maxLen at hmax
    have hne5 : Hid (∀ a, p = some a → a.block ≠ ge ∧ a.block ≠ gw) := Lib.hid (fun a e => by
      subst e
      have h0 : U.heap.size ≤ a.block := hob2 a.block rfl
      omega)
    clear hob2
    go_wp2_with fail
    go_loopw [17] (fun i wr => ∃ (k : Nat) (c : List UInt8), k ≤ n ∧ i = .int .i64 (k : Int) ∧ Hid (c.length = 32) ∧ Hid (Dg wr ge c) ∧ Hid (Dg wr gw c) ∧ Hid (LD wr (.slice p n cap) l) ∧ Hid (Below w.heap.size w wr)) (fun i _ => n - (intOf i).toNat)
    case atStart => exact ⟨0, f, Nat.zero_le _, rfl, Lib.hid HF.out, DE2, DW2, HL2, HB2⟩
    case round =>
      obtain ⟨k, c, hk, rfl, hc32, hE, hW, hL, hB⟩ := hrel
      by_cases hlt : k < n
      · obtain ⟨b, o, hpe⟩ : ∃ b o, p = some ⟨b, o, none⟩ := by
          obtain ⟨b, cap', p', e, h1, h2, h3, h4⟩ := hL.out
          cases e
          rcases h4 with h4 | ⟨o, e, _⟩
          · have h0 : l.length = 0 := by rw [h4]; rfl
            exact absurd h0 (by omega)
          · exact ⟨b, o, e⟩
        subst hpe
        have hkl : k < l.length := by omega
        obtain ⟨d, hd⟩ : ∃ d, l[k]? = some d := ⟨l[k], List.getElem?_eq_getElem hkl⟩
        have hd32 := Lib.hid (H32.out d (List.mem_of_getElem? hd))
        have HR := Lib.hid (hL.out.at H32.out k d hd)
        have c1 : ((k : Nat) : Int) < (n : Int) := by omega
        clear HL2 HB2 DE2 DW2
        have hge0 : Hid (ge < wr.heap.size) := Lib.hid (Array.getElem?_eq_some_iff.1 hE.out).1
        have hgw0 : Hid (gw < wr.heap.size) := Lib.hid (Array.getElem?_eq_some_iff.1 hW.out).1
        go_wp2_with (first
          | (refine el_load rfl (.tmp 19) rfl b (o + k * 32) d HR.out hd32.out rfl ?_)
          | (refine dg_store rfl (.tmp 8) (.tmp 20) rfl wr.heap.size zeros d (zeros32 wr) (by simp [zeros]) hd32.out rfl rfl ?_; rintro w5 hd5 hc5; have hb5 := Lib.hid (chg_alloc_below hc5 rfl); have hE5 := Lib.hid (hE.out.below hb5.out); clear hc5)
          | (refine dg_load rfl (.tmp 5) rfl ge c hE5.out hc32.out rfl ?_)
          | (refine dg_store rfl (.tmp 9) (.tmp 21) rfl w5.heap.size zeros c (zeros32 w5) (by simp [zeros]) hc32.out rfl rfl ?_; rintro w6 hd6 hc6; have hb6 := Lib.hid (chg_alloc_below hc6 rfl); clear hc6))
        have hz5 := hb5.out.size
        have hz6 := hb6.out.size
        have hb56 := Lib.hid (hb5.out.trans (hb6.out.mono hz5))
        have E6 := Lib.hid (hE.out.below hb56.out)
        have W6 := Lib.hid (hW.out.below hb56.out)
        have L6 := Lib.hid (hL.out.below hb56.out)
        have D6 := Lib.hid (hd5.out.below hb6.out)
        have C6 := hd6
        have B6 := Lib.hid (hB.out.trans (hb56.out.mono hB.out.size))
        have K6 := Lib.hid (HK.out.below B6.out)
        have hlt5 : wr.heap.size < w5.heap.size := (Array.getElem?_eq_some_iff.1 hd5.out).1
        have hlt6 : w5.heap.size < w6.heap.size := (Array.getElem?_eq_some_iff.1 hd6.out).1
        have hge1 := hge0.out
        have hgw1 := hgw0.out
        have hme : wr.heap.size ≠ ge := by omega
        have hmw : wr.heap.size ≠ gw := by omega
        have hce : w5.heap.size ≠ ge := by omega
        have hcw : w5.heap.size ≠ gw := by omega
        have hme6 : wr.heap.size < w6.heap.size := by omega
        have hge6 : ge < w6.heap.size := by omega
        have hgw6 : gw < w6.heap.size := by omega
        have hmz := B6.out.size
        clear hge0 hgw0 hge1 hgw1 hd5 hd6 hb5 hb6 hb56 hE hW hL hB HR hE5 hz5 hz6 hlt5
        generalize wr.heap.size = h at *
        generalize w5.heap.size = g9 at *
        have hRD := dg_range D6.out
        have B7 := Lib.hid (below_drew (Below.refl w6.heap.size w6))
        have hsc : (Tryd.prog.info? 26).map (·.size) = some (c.map byt).length := by rw [size26, List.length_map, hc32.out]
        have hsd : (Tryd.prog.info? 26).map (·.size) = some (d.map byt).length := by rw [size26, List.length_map, hd32.out]
        refine wp_region_held_drew (S := fun w' => w'.rangeAt h 0 (d.map byt)) (by kernel_rfl) hRD (fun hHeld => ?_)
        refine take_at (i := 1) (k := 23) (v := dgv d) rfl rfl (by kernel_rfl) (by kernel_rfl) (by kernel_rfl) (fun _ _ _ h => h) (yieldsIf_load_mid (by rfl) 26 (.tmp 8) rfl h 0 rfl (d.map byt) _ (fun w' h => h) Tryd.underlying26 rfl hsd) hHeld ?_
        try simp only [Act.put, List.setIfInBounds_toArray, List.set_cons_zero, List.set_cons_succ]
        refine take_at (i := 4) (k := 26) (v := dgv d) rfl rfl (by kernel_rfl) (by kernel_rfl) (by kernel_rfl) (fun _ _ _ h => h) (yieldsIf_load_mid (by rfl) 26 (.tmp 8) rfl h 0 rfl (d.map byt) _ (fun w' h => h) Tryd.underlying26 rfl hsd) hHeld ?_
        try simp only [Act.put, List.setIfInBounds_toArray, List.set_cons_zero, List.set_cons_succ]
        clear hHeld
        refine wpAnyH_ready (rs := [0, 3]) (by kernel_rfl) (by simp) ?_
        refine AllReadyH.cons rfl (fun K hK => ?_) (AllReadyH.cons rfl (fun K hK => ?_) AllReadyH.nil)
        · rw [if_pos (by rfl)]
          refine wp_load_mid 26 (.tmp 5) rfl ge 0 rfl (c.map byt) _ (dg_range (E6.out.below B7.out)) Tryd.underlying26 rfl hsc ?_
          refine hK.out _ _ (range_below hRD B7.out) (fun _ => ?_)
          try simp only [Act.put, List.setIfInBounds_toArray, List.set_cons_zero, List.set_cons_succ]
          clear hK K
          refine wpAnyH_ready (rs := [2, 3]) (by kernel_rfl) (by simp) ?_
          refine AllReadyH.cons rfl (fun K hK => ?_) (AllReadyH.cons rfl (fun K hK => ?_) AllReadyH.nil)
          · rw [if_pos (by rfl)]
            go_simp
            go_at_call 25
            refine (chain_any c d w6.drew hc32.out hd32.out (K6.out.below B7.out)).mono ?_
            rintro e V2 ⟨rfl, hbe⟩
            have BV2 := Lib.hid (B7.out.trans (hbe.mono B7.out.size))
            clear hbe
            refine hK.out _ _ (range_below hRD BV2.out) (fun _ => ?_)
            try simp only [Act.put, List.setIfInBounds_toArray, List.set_cons_zero, List.set_cons_succ]
            clear hK K
            refine wpAnyH_ready (rs := [3]) (by kernel_rfl) (by simp) ?_
            refine AllReadyH.cons rfl (fun K hK => ?_) AllReadyH.nil
            rw [if_pos (by rfl)]
            refine wp_load_mid 26 (.tmp 6) rfl gw 0 rfl (c.map byt) _ (dg_range (W6.out.below BV2.out)) Tryd.underlying26 rfl hsc ?_
            refine hK.out _ _ (range_below hRD BV2.out) (fun _ => ?_)
            try simp only [Act.put, List.setIfInBounds_toArray, List.set_cons_zero, List.set_cons_succ]
            clear hK K
            refine wpAnyH_ready (rs := [5]) (by kernel_rfl) (by simp) ?_
            refine AllReadyH.cons rfl (fun K hK => ?_) AllReadyH.nil
            rw [if_pos (by rfl)]
            go_simp
            go_at_call 26
            refine (rchain_any c d V2 hc32.out hd32.out).mono ?_
            rintro e V4 ⟨rfl, hbe⟩
            have BV4 := Lib.hid (BV2.out.trans (hbe.mono BV2.out.size))
            clear hbe
            refine hK.out _ _ (range_below hRD BV4.out) (fun _ => ?_)
            try simp only [Act.put, List.setIfInBounds_toArray, List.set_cons_zero, List.set_cons_succ]
            clear hK K
            refine wpAnyH_ready (rs := [6]) (by kernel_rfl) (by simp) ?_
            refine AllReadyH.cons rfl (fun K hK => ?_) AllReadyH.nil
            rw [if_pos (by rfl)]
            refine wp_st (.tmp 5) (.tmp 24) rfl rfl ge c (tg (bts sChain) (c ++ d)) (E6.out.below BV4.out) hc32.out (tg_len _ _) rfl rfl ?_
            intro V5 DE6 hc6
            have hr6 : V5.rangeAt h 0 (d.map byt) := dg_range ((hc6.block h (Nat.lt_of_lt_of_le hme6 BV4.out.size) hme).trans (D6.out.below BV4.out))
            have DW6 : Hid (Dg V5 gw c) := Lib.hid ((hc6.block gw (Nat.lt_of_lt_of_le hgw6 BV4.out.size) (Ne.symm hne)).trans (W6.out.below BV4.out))
            refine hK.out _ _ hr6 (fun _ => ?_)
            try simp only [Act.put, List.setIfInBounds_toArray, List.set_cons_zero, List.set_cons_succ]
            clear hK K
            refine wpAnyH_ready (rs := [7]) (by kernel_rfl) (by simp) ?_
            refine AllReadyH.cons rfl (fun K hK => ?_) AllReadyH.nil
            rw [if_pos (by rfl)]
            refine wp_st (.tmp 6) (.tmp 27) rfl rfl gw c (tg (bts sChain) (c ++ d)) DW6.out hc32.out (tg_len _ _) rfl rfl ?_
            intro V6 DW7 hc7
            have hy6 := hc6.size
            have hr7 : V6.rangeAt h 0 (d.map byt) := dg_range ((hc7.block h (Nat.lt_of_lt_of_le (Nat.lt_of_lt_of_le hme6 BV4.out.size) hc6.size) hmw).trans ((hc6.block h (Nat.lt_of_lt_of_le hme6 BV4.out.size) hme).trans (D6.out.below BV4.out)))
            have DE7 : Hid (Dg V6 ge (tg (bts sChain) (c ++ d))) := Lib.hid ((hc7.block ge (Nat.lt_of_lt_of_le (Nat.lt_of_lt_of_le hge6 BV4.out.size) hc6.size) hne).trans DE6.out)
            refine hK.out _ _ hr7 (fun _ => ?_)
            try simp only [Act.put, List.setIfInBounds_toArray, List.set_cons_zero, List.set_cons_succ]
            clear hK K
            have D7 : Hid (Dg V6 h d) := Lib.hid ((hc7.block h (Nat.lt_of_lt_of_le (Nat.lt_of_lt_of_le hme6 BV4.out.size) hc6.size) hmw).trans ((hc6.block h (Nat.lt_of_lt_of_le hme6 BV4.out.size) hme).trans (D6.out.below BV4.out)))
            have C7 : Hid (Dg V6 g9 c) := Lib.hid ((hc7.block g9 (Nat.lt_of_lt_of_le (Nat.lt_of_lt_of_le hlt6 BV4.out.size) hc6.size) hcw).trans ((hc6.block g9 (Nat.lt_of_lt_of_le hlt6 BV4.out.size) hce).trans (C6.out.below BV4.out)))
            have L7 := Lib.hid (ld_chg (ld_chg (L6.out.below BV4.out) hc6 (fun a e => (hne5.out a e).1)) hc7 (fun a e => (hne5.out a e).2))
            have B8 := Lib.hid (Chg.below (Chg.below (B6.out.trans (BV4.out.mono B6.out.size)) (Nat.le_trans hmz BV4.out.size) hmE hc6) (Nat.le_trans (Nat.le_trans hmz BV4.out.size) hc6.size) hmW hc7)
            clear hr6 hr7 hc6 hc7 hy6 DW6 DE6
            refine wpAnyH_done (by kernel_rfl) ?_ _
            have K8 := Lib.hid (HK.out.below B8.out)
            have hx32 : Hid ((tg (bts sChain) (c ++ d)).length = 32) := Lib.hid (tg_len _ _)
            have hcx : Hid (tg (bts sChain) (([] ++ c) ++ d) = tg (bts sChain) (c ++ d)) := Lib.hid (by rw [List.nil_append])
            clear hRD E6 W6 D6 C6 L6 B6 K6 B7
            generalize tg (bts sChain) (c ++ d) = x at *
            have heq : ∀ w, (Op.equalIn 10000 26 (dgv x) (dgv x)).run Tryd.prog w = .ok true w := fun w => by rw [dg_equal _ _ hx32.out hx32.out, beq_self_eq_true]
            have hsx : (Tryd.prog.info? 26).map (·.size) = some (x.map byt).length := by rw [size26, List.length_map, hx32.out]
            have hRE := dg_range DE7.out
            have hRW := dg_range DW7.out
            go_wp2_with fail
            have A0 := Lib.hid (below_drew (Below.refl V6.heap.size V6))
            refine wp_region_held_drew (S := fun w' => w'.rangeAt ge 0 (x.map byt) ∧ w'.rangeAt gw 0 (x.map byt)) (by kernel_rfl) ⟨hRE, hRW⟩ (fun hHeld => ?_)
            refine take_at (i := 0) (k := 28) (v := dgv x) rfl rfl (by kernel_rfl) (by kernel_rfl) (by kernel_rfl) (fun _ _ _ h => h) (yieldsIf_load_mid (by rfl) 26 (.tmp 5) rfl ge 0 rfl (x.map byt) _ (fun w' h => h.1) Tryd.underlying26 rfl hsx) hHeld ?_
            try simp only [Act.put, List.setIfInBounds_toArray, List.set_cons_zero, List.set_cons_succ]
            refine take_at (i := 1) (k := 29) (v := dgv x) rfl rfl (by kernel_rfl) (by kernel_rfl) (by kernel_rfl) (fun _ _ _ h => h) (yieldsIf_load_mid (by rfl) 26 (.tmp 6) rfl gw 0 rfl (x.map byt) _ (fun w' h => h.2) Tryd.underlying26 rfl hsx) hHeld ?_
            try simp only [Act.put, List.setIfInBounds_toArray, List.set_cons_zero, List.set_cons_succ]
            refine take_at (i := 2) (k := 30) (v := .bool false) rfl rfl (by kernel_rfl) (by kernel_rfl) (by kernel_rfl) (fun _ _ _ h => h) (Or.inl ⟨by rfl, fun w _ => by go_simp⟩) hHeld ?_
            try simp only [Act.put, List.setIfInBounds_toArray, List.set_cons_zero, List.set_cons_succ]
            refine take_at (i := 3) (k := 31) (v := .bool false) rfl rfl (by kernel_rfl) (by kernel_rfl) (by kernel_rfl) (fun _ _ _ h => h) (Or.inl ⟨by rfl, fun w _ => rfl⟩) hHeld ?_
            try simp only [Act.put, List.setIfInBounds_toArray, List.set_cons_zero, List.set_cons_succ]
            refine take_at (i := 4) (k := 32) (v := dgv x) rfl rfl (by kernel_rfl) (by kernel_rfl) (by kernel_rfl) (fun _ _ _ h => h) (yieldsIf_load_mid (by rfl) 26 (.tmp 5) rfl ge 0 rfl (x.map byt) _ (fun w' h => h.1) Tryd.underlying26 rfl hsx) hHeld ?_
            try simp only [Act.put, List.setIfInBounds_toArray, List.set_cons_zero, List.set_cons_succ]
            refine take_at (i := 6) (k := 34) (v := .slice (some ⟨g9, 0, none⟩) 32 32) rfl rfl (by kernel_rfl) (by kernel_rfl) (by kernel_rfl) (fun _ _ _ h => h) (Or.inl ⟨by rfl, fun w _ => by go_simp⟩) hHeld ?_
            try simp only [Act.put, List.setIfInBounds_toArray, List.set_cons_zero, List.set_cons_succ]
            refine take_at (i := 8) (k := 36) (v := .slice (some ⟨h, 0, none⟩) 32 32) rfl rfl (by kernel_rfl) (by kernel_rfl) (by kernel_rfl) (fun _ _ _ h => h) (Or.inl ⟨by rfl, fun w _ => by go_simp⟩) hHeld ?_
            try simp only [Act.put, List.setIfInBounds_toArray, List.set_cons_zero, List.set_cons_succ]
            clear hHeld
            refine wpAnyH_ready (rs := [5]) (by kernel_rfl) (by simp) ?_
            refine AllReadyH.cons rfl (fun K hK => ?_) AllReadyH.nil
            rw [if_pos (by rfl)]
            refine wp_b0b rfl rfl ?_
            intro A1 g11 hbe11 hge11 hlt11 O11
            have A1B := Lib.hid (A0.out.trans (hbe11.mono A0.out.size))
            have hz11 := A0.out.size
            have ob11 : ∀ j, (Value.slice (some ⟨g11, 0, none⟩) 0 0).ownBlock = some j → V6.heap.size ≤ j := fun j e => by
              have e' : g11 = j := Option.some.inj e
              subst e'
              exact Nat.le_trans hz11 hge11
            clear hbe11
            refine hK.out _ _ ⟨range_below hRE A1B.out, range_below hRW A1B.out⟩ (fun _ => ?_)
            try simp only [Act.put, List.setIfInBounds_toArray, List.set_cons_zero, List.set_cons_succ]
            clear hK K
            refine wpAnyH_ready (rs := [7]) (by kernel_rfl) (by simp) ?_
            refine AllReadyH.cons rfl (fun K hK => ?_) AllReadyH.nil
            rw [if_pos (by rfl)]
            refine wp_apb rfl (.tmp 33) (.tmp 34) rfl (.slice (some ⟨g11, 0, none⟩) 0 0) (.slice (some ⟨g9, 0, none⟩) 32 32) ([] : List UInt8) c rfl O11.out rfl (dg_bv (C7.out.below A1B.out) hc32.out) (by simp [hc32.out]) ?_
            intro v12 A2 O12 hg12 hv12
            have A2B := Lib.hid (grown_below A1B.out A1B.out.size hg12 ob11)
            have ob12 := own_grown_lt ob11 A1B.out.size hv12
            clear hg12 hv12
            refine hK.out _ _ ⟨range_below hRE A2B.out, range_below hRW A2B.out⟩ (fun _ => ?_)
            try simp only [Act.put, List.setIfInBounds_toArray, List.set_cons_zero, List.set_cons_succ]
            clear hK K
            refine wpAnyH_ready (rs := [9]) (by kernel_rfl) (by simp) ?_
            refine AllReadyH.cons rfl (fun K hK => ?_) AllReadyH.nil
            rw [if_pos (by rfl)]
            refine wp_apb rfl (.tmp 35) (.tmp 36) rfl v12 (.slice (some ⟨h, 0, none⟩) 32 32) ([] ++ c) d rfl O12.out rfl (dg_bv (D7.out.below A2B.out) hd32.out) (by simp [hc32.out, hd32.out]) ?_
            intro v13 A3 O13 hg13 hv13
            have A3B := Lib.hid (grown_below A2B.out A2B.out.size hg13 ob12)
            clear hg13 hv13
            refine hK.out _ _ ⟨range_below hRE A3B.out, range_below hRW A3B.out⟩ (fun _ => ?_)
            try simp only [Act.put, List.setIfInBounds_toArray, List.set_cons_zero, List.set_cons_succ]
            clear hK K
            refine wpAnyH_ready (rs := [10]) (by kernel_rfl) (by simp) ?_
            refine AllReadyH.cons rfl (fun K hK => ?_) AllReadyH.nil
            rw [if_pos (by rfl)]
            go_simp
            go_at_call 14
            refine (tagged_any sChain v13 (([] ++ c) ++ d) A3 (by decide) (own_bv O13.out) (by simp [hc32.out, hd32.out]) (K8.out.below A3B.out)).mono ?_
            rintro e A4 ⟨rfl, hbe14⟩
            rw [hcx.out]
            have A4B := Lib.hid (A3B.out.trans (hbe14.mono A3B.out.size))
            clear hbe14
            have hHeld : A4.rangeAt ge 0 (x.map byt) ∧ A4.rangeAt gw 0 (x.map byt) := ⟨range_below hRE A4B.out, range_below hRW A4B.out⟩
            refine hK.out _ _ hHeld (fun _ => ?_)
            try simp only [Act.put, List.setIfInBounds_toArray, List.set_cons_zero, List.set_cons_succ]
            clear hK K
            refine take_at (i := 11) (k := 39) (v := .bool false) rfl rfl (by kernel_rfl) (by kernel_rfl) (by kernel_rfl) (fun _ _ _ h => h) (Or.inl ⟨by rfl, fun w _ => by go_simp⟩) hHeld ?_
            try simp only [Act.put, List.setIfInBounds_toArray, List.set_cons_zero, List.set_cons_succ]
            refine take_at (i := 12) (k := 40) (v := .bool false) rfl rfl (by kernel_rfl) (by kernel_rfl) (by kernel_rfl) (fun _ _ _ h => h) (Or.inl ⟨by rfl, fun w _ => rfl⟩) hHeld ?_
            try simp only [Act.put, List.setIfInBounds_toArray, List.set_cons_zero, List.set_cons_succ]
            refine wpAnyH_done (by kernel_rfl) ?_ _
            clear hHeld hRE hRW
            go_wp2_with fail
            go_roundw
            case rel => exact ⟨k + 1, x, by omega, by go_num, hx32, Lib.hid (DE7.out.below A4B.out), Lib.hid (DW7.out.below A4B.out), Lib.hid (L7.out.below A4B.out), Lib.hid (B8.out.trans (A4B.out.mono B8.out.size))⟩
            case measure => simp [intOf]; omega
          · rw [if_pos (by rfl)]
            refine wp_load_mid 26 (.tmp 6) rfl gw 0 rfl (c.map byt) _ (dg_range (W6.out.below B7.out)) Tryd.underlying26 rfl hsc ?_
            refine hK.out _ _ (range_below hRD B7.out) (fun _ => ?_)
            try simp only [Act.put, List.setIfInBounds_toArray, List.set_cons_zero, List.set_cons_succ]
            clear hK K
            refine wpAnyH_ready (rs := [2]) (by kernel_rfl) (by simp) ?_
            refine AllReadyH.cons rfl (fun K hK => ?_) AllReadyH.nil
            rw [if_pos (by rfl)]
            go_simp
            go_at_call 25
            refine (chain_any c d w6.drew hc32.out hd32.out (K6.out.below B7.out)).mono ?_
            rintro e V8 ⟨rfl, hbe⟩
            have BV8 := Lib.hid (B7.out.trans (hbe.mono B7.out.size))
            clear hbe
            refine hK.out _ _ (range_below hRD BV8.out) (fun _ => ?_)
            try simp only [Act.put, List.setIfInBounds_toArray, List.set_cons_zero, List.set_cons_succ]
            clear hK K
            refine wpAnyH_ready (rs := [5]) (by kernel_rfl) (by simp) ?_
            refine AllReadyH.cons rfl (fun K hK => ?_) AllReadyH.nil
            rw [if_pos (by rfl)]
            go_simp
            go_at_call 26
            refine (rchain_any c d V8 hc32.out hd32.out).mono ?_
            rintro e V9 ⟨rfl, hbe⟩
            have BV9 := Lib.hid (BV8.out.trans (hbe.mono BV8.out.size))
            clear hbe
            refine hK.out _ _ (range_below hRD BV9.out) (fun _ => ?_)
            try simp only [Act.put, List.setIfInBounds_toArray, List.set_cons_zero, List.set_cons_succ]
            clear hK K
            refine wpAnyH_ready (rs := [6]) (by kernel_rfl) (by simp) ?_
            refine AllReadyH.cons rfl (fun K hK => ?_) AllReadyH.nil
            rw [if_pos (by rfl)]
            refine wp_st (.tmp 5) (.tmp 24) rfl rfl ge c (tg (bts sChain) (c ++ d)) (E6.out.below BV9.out) hc32.out (tg_len _ _) rfl rfl ?_
            intro V10 DE6 hc6
            have hr6 : V10.rangeAt h 0 (d.map byt) := dg_range ((hc6.block h (Nat.lt_of_lt_of_le hme6 BV9.out.size) hme).trans (D6.out.below BV9.out))
            have DW6 : Hid (Dg V10 gw c) := Lib.hid ((hc6.block gw (Nat.lt_of_lt_of_le hgw6 BV9.out.size) (Ne.symm hne)).trans (W6.out.below BV9.out))
            refine hK.out _ _ hr6 (fun _ => ?_)
            try simp only [Act.put, List.setIfInBounds_toArray, List.set_cons_zero, List.set_cons_succ]
            clear hK K
            refine wpAnyH_ready (rs := [7]) (by kernel_rfl) (by simp) ?_
            refine AllReadyH.cons rfl (fun K hK => ?_) AllReadyH.nil
            rw [if_pos (by rfl)]
            refine wp_st (.tmp 6) (.tmp 27) rfl rfl gw c (tg (bts sChain) (c ++ d)) DW6.out hc32.out (tg_len _ _) rfl rfl ?_
            intro V11 DW7 hc7
            have hy6 := hc6.size
            have hr7 : V11.rangeAt h 0 (d.map byt) := dg_range ((hc7.block h (Nat.lt_of_lt_of_le (Nat.lt_of_lt_of_le hme6 BV9.out.size) hc6.size) hmw).trans ((hc6.block h (Nat.lt_of_lt_of_le hme6 BV9.out.size) hme).trans (D6.out.below BV9.out)))
            have DE7 : Hid (Dg V11 ge (tg (bts sChain) (c ++ d))) := Lib.hid ((hc7.block ge (Nat.lt_of_lt_of_le (Nat.lt_of_lt_of_le hge6 BV9.out.size) hc6.size) hne).trans DE6.out)
            refine hK.out _ _ hr7 (fun _ => ?_)
            try simp only [Act.put, List.setIfInBounds_toArray, List.set_cons_zero, List.set_cons_succ]
            clear hK K
            have D7 : Hid (Dg V11 h d) := Lib.hid ((hc7.block h (Nat.lt_of_lt_of_le (Nat.lt_of_lt_of_le hme6 BV9.out.size) hc6.size) hmw).trans ((hc6.block h (Nat.lt_of_lt_of_le hme6 BV9.out.size) hme).trans (D6.out.below BV9.out)))
            have C7 : Hid (Dg V11 g9 c) := Lib.hid ((hc7.block g9 (Nat.lt_of_lt_of_le (Nat.lt_of_lt_of_le hlt6 BV9.out.size) hc6.size) hcw).trans ((hc6.block g9 (Nat.lt_of_lt_of_le hlt6 BV9.out.size) hce).trans (C6.out.below BV9.out)))
            have L7 := Lib.hid (ld_chg (ld_chg (L6.out.below BV9.out) hc6 (fun a e => (hne5.out a e).1)) hc7 (fun a e => (hne5.out a e).2))
            have B8 := Lib.hid (Chg.below (Chg.below (B6.out.trans (BV9.out.mono B6.out.size)) (Nat.le_trans hmz BV9.out.size) hmE hc6) (Nat.le_trans (Nat.le_trans hmz BV9.out.size) hc6.size) hmW hc7)
            clear hr6 hr7 hc6 hc7 hy6 DW6 DE6
            refine wpAnyH_done (by kernel_rfl) ?_ _
            have K8 := Lib.hid (HK.out.below B8.out)
            have hx32 : Hid ((tg (bts sChain) (c ++ d)).length = 32) := Lib.hid (tg_len _ _)
            have hcx : Hid (tg (bts sChain) (([] ++ c) ++ d) = tg (bts sChain) (c ++ d)) := Lib.hid (by rw [List.nil_append])
            clear hRD E6 W6 D6 C6 L6 B6 K6 B7
            generalize tg (bts sChain) (c ++ d) = x at *
            have heq : ∀ w, (Op.equalIn 10000 26 (dgv x) (dgv x)).run Tryd.prog w = .ok true w := fun w => by rw [dg_equal _ _ hx32.out hx32.out, beq_self_eq_true]
            have hsx : (Tryd.prog.info? 26).map (·.size) = some (x.map byt).length := by rw [size26, List.length_map, hx32.out]
            have hRE := dg_range DE7.out
            have hRW := dg_range DW7.out
            go_wp2_with fail
            have A0 := Lib.hid (below_drew (Below.refl V11.heap.size V11))
            refine wp_region_held_drew (S := fun w' => w'.rangeAt ge 0 (x.map byt) ∧ w'.rangeAt gw 0 (x.map byt)) (by kernel_rfl) ⟨hRE, hRW⟩ (fun hHeld => ?_)
            refine take_at (i := 0) (k := 28) (v := dgv x) rfl rfl (by kernel_rfl) (by kernel_rfl) (by kernel_rfl) (fun _ _ _ h => h) (yieldsIf_load_mid (by rfl) 26 (.tmp 5) rfl ge 0 rfl (x.map byt) _ (fun w' h => h.1) Tryd.underlying26 rfl hsx) hHeld ?_
            try simp only [Act.put, List.setIfInBounds_toArray, List.set_cons_zero, List.set_cons_succ]
            refine take_at (i := 1) (k := 29) (v := dgv x) rfl rfl (by kernel_rfl) (by kernel_rfl) (by kernel_rfl) (fun _ _ _ h => h) (yieldsIf_load_mid (by rfl) 26 (.tmp 6) rfl gw 0 rfl (x.map byt) _ (fun w' h => h.2) Tryd.underlying26 rfl hsx) hHeld ?_
            try simp only [Act.put, List.setIfInBounds_toArray, List.set_cons_zero, List.set_cons_succ]
            refine take_at (i := 2) (k := 30) (v := .bool false) rfl rfl (by kernel_rfl) (by kernel_rfl) (by kernel_rfl) (fun _ _ _ h => h) (Or.inl ⟨by rfl, fun w _ => by go_simp⟩) hHeld ?_
            try simp only [Act.put, List.setIfInBounds_toArray, List.set_cons_zero, List.set_cons_succ]
            refine take_at (i := 3) (k := 31) (v := .bool false) rfl rfl (by kernel_rfl) (by kernel_rfl) (by kernel_rfl) (fun _ _ _ h => h) (Or.inl ⟨by rfl, fun w _ => rfl⟩) hHeld ?_
            try simp only [Act.put, List.setIfInBounds_toArray, List.set_cons_zero, List.set_cons_succ]
            refine take_at (i := 4) (k := 32) (v := dgv x) rfl rfl (by kernel_rfl) (by kernel_rfl) (by kernel_rfl) (fun _ _ _ h => h) (yieldsIf_load_mid (by rfl) 26 (.tmp 5) rfl ge 0 rfl (x.map byt) _ (fun w' h => h.1) Tryd.underlying26 rfl hsx) hHeld ?_
            try simp only [Act.put, List.setIfInBounds_toArray, List.set_cons_zero, List.set_cons_succ]
            refine take_at (i := 6) (k := 34) (v := .slice (some ⟨g9, 0, none⟩) 32 32) rfl rfl (by kernel_rfl) (by kernel_rfl) (by kernel_rfl) (fun _ _ _ h => h) (Or.inl ⟨by rfl, fun w _ => by go_simp⟩) hHeld ?_
            try simp only [Act.put, List.setIfInBounds_toArray, List.set_cons_zero, List.set_cons_succ]
            refine take_at (i := 8) (k := 36) (v := .slice (some ⟨h, 0, none⟩) 32 32) rfl rfl (by kernel_rfl) (by kernel_rfl) (by kernel_rfl) (fun _ _ _ h => h) (Or.inl ⟨by rfl, fun w _ => by go_simp⟩) hHeld ?_
            try simp only [Act.put, List.setIfInBounds_toArray, List.set_cons_zero, List.set_cons_succ]
            clear hHeld
            refine wpAnyH_ready (rs := [5]) (by kernel_rfl) (by simp) ?_
            refine AllReadyH.cons rfl (fun K hK => ?_) AllReadyH.nil
            rw [if_pos (by rfl)]
            refine wp_b0b rfl rfl ?_
            intro A1 g11 hbe11 hge11 hlt11 O11
            have A1B := Lib.hid (A0.out.trans (hbe11.mono A0.out.size))
            have hz11 := A0.out.size
            have ob11 : ∀ j, (Value.slice (some ⟨g11, 0, none⟩) 0 0).ownBlock = some j → V11.heap.size ≤ j := fun j e => by
              have e' : g11 = j := Option.some.inj e
              subst e'
              exact Nat.le_trans hz11 hge11
            clear hbe11
            refine hK.out _ _ ⟨range_below hRE A1B.out, range_below hRW A1B.out⟩ (fun _ => ?_)
            try simp only [Act.put, List.setIfInBounds_toArray, List.set_cons_zero, List.set_cons_succ]
            clear hK K
            refine wpAnyH_ready (rs := [7]) (by kernel_rfl) (by simp) ?_
            refine AllReadyH.cons rfl (fun K hK => ?_) AllReadyH.nil
            rw [if_pos (by rfl)]
            refine wp_apb rfl (.tmp 33) (.tmp 34) rfl (.slice (some ⟨g11, 0, none⟩) 0 0) (.slice (some ⟨g9, 0, none⟩) 32 32) ([] : List UInt8) c rfl O11.out rfl (dg_bv (C7.out.below A1B.out) hc32.out) (by simp [hc32.out]) ?_
            intro v12 A2 O12 hg12 hv12
            have A2B := Lib.hid (grown_below A1B.out A1B.out.size hg12 ob11)
            have ob12 := own_grown_lt ob11 A1B.out.size hv12
            clear hg12 hv12
            refine hK.out _ _ ⟨range_below hRE A2B.out, range_below hRW A2B.out⟩ (fun _ => ?_)
            try simp only [Act.put, List.setIfInBounds_toArray, List.set_cons_zero, List.set_cons_succ]
            clear hK K
            refine wpAnyH_ready (rs := [9]) (by kernel_rfl) (by simp) ?_
            refine AllReadyH.cons rfl (fun K hK => ?_) AllReadyH.nil
            rw [if_pos (by rfl)]
            refine wp_apb rfl (.tmp 35) (.tmp 36) rfl v12 (.slice (some ⟨h, 0, none⟩) 32 32) ([] ++ c) d rfl O12.out rfl (dg_bv (D7.out.below A2B.out) hd32.out) (by simp [hc32.out, hd32.out]) ?_
            intro v13 A3 O13 hg13 hv13
            have A3B := Lib.hid (grown_below A2B.out A2B.out.size hg13 ob12)
            clear hg13 hv13
            refine hK.out _ _ ⟨range_below hRE A3B.out, range_below hRW A3B.out⟩ (fun _ => ?_)
            try simp only [Act.put, List.setIfInBounds_toArray, List.set_cons_zero, List.set_cons_succ]
            clear hK K
            refine wpAnyH_ready (rs := [10]) (by kernel_rfl) (by simp) ?_
            refine AllReadyH.cons rfl (fun K hK => ?_) AllReadyH.nil
            rw [if_pos (by rfl)]
            go_simp
            go_at_call 14
            refine (tagged_any sChain v13 (([] ++ c) ++ d) A3 (by decide) (own_bv O13.out) (by simp [hc32.out, hd32.out]) (K8.out.below A3B.out)).mono ?_
            rintro e A4 ⟨rfl, hbe14⟩
            rw [hcx.out]
            have A4B := Lib.hid (A3B.out.trans (hbe14.mono A3B.out.size))
            clear hbe14
            have hHeld : A4.rangeAt ge 0 (x.map byt) ∧ A4.rangeAt gw 0 (x.map byt) := ⟨range_below hRE A4B.out, range_below hRW A4B.out⟩
            refine hK.out _ _ hHeld (fun _ => ?_)
            try simp only [Act.put, List.setIfInBounds_toArray, List.set_cons_zero, List.set_cons_succ]
            clear hK K
            refine take_at (i := 11) (k := 39) (v := .bool false) rfl rfl (by kernel_rfl) (by kernel_rfl) (by kernel_rfl) (fun _ _ _ h => h) (Or.inl ⟨by rfl, fun w _ => by go_simp⟩) hHeld ?_
            try simp only [Act.put, List.setIfInBounds_toArray, List.set_cons_zero, List.set_cons_succ]
            refine take_at (i := 12) (k := 40) (v := .bool false) rfl rfl (by kernel_rfl) (by kernel_rfl) (by kernel_rfl) (fun _ _ _ h => h) (Or.inl ⟨by rfl, fun w _ => rfl⟩) hHeld ?_
            try simp only [Act.put, List.setIfInBounds_toArray, List.set_cons_zero, List.set_cons_succ]
            refine wpAnyH_done (by kernel_rfl) ?_ _
            clear hHeld hRE hRW
            go_wp2_with fail
            go_roundw
            case rel => exact ⟨k + 1, x, by omega, by go_num, hx32, Lib.hid (DE7.out.below A4B.out), Lib.hid (DW7.out.below A4B.out), Lib.hid (L7.out.below A4B.out), Lib.hid (B8.out.trans (A4B.out.mono B8.out.size))⟩
            case measure => simp [intOf]; omega
        · rw [if_pos (by rfl)]
          refine wp_load_mid 26 (.tmp 6) rfl gw 0 rfl (c.map byt) _ (dg_range (W6.out.below B7.out)) Tryd.underlying26 rfl hsc ?_
          refine hK.out _ _ (range_below hRD B7.out) (fun _ => ?_)
          try simp only [Act.put, List.setIfInBounds_toArray, List.set_cons_zero, List.set_cons_succ]
          clear hK K
          refine wpAnyH_ready (rs := [0]) (by kernel_rfl) (by simp) ?_
          refine AllReadyH.cons rfl (fun K hK => ?_) AllReadyH.nil
          rw [if_pos (by rfl)]
          refine wp_load_mid 26 (.tmp 5) rfl ge 0 rfl (c.map byt) _ (dg_range (E6.out.below B7.out)) Tryd.underlying26 rfl hsc ?_
          refine hK.out _ _ (range_below hRD B7.out) (fun _ => ?_)
          try simp only [Act.put, List.setIfInBounds_toArray, List.set_cons_zero, List.set_cons_succ]
          clear hK K
          refine wpAnyH_ready (rs := [2]) (by kernel_rfl) (by simp) ?_
          refine AllReadyH.cons rfl (fun K hK => ?_) AllReadyH.nil
          rw [if_pos (by rfl)]
          go_simp
          go_at_call 25
          refine (chain_any c d w6.drew hc32.out hd32.out (K6.out.below B7.out)).mono ?_
          rintro e V14 ⟨rfl, hbe⟩
          have BV14 := Lib.hid (B7.out.trans (hbe.mono B7.out.size))
          clear hbe
          refine hK.out _ _ (range_below hRD BV14.out) (fun _ => ?_)
          try simp only [Act.put, List.setIfInBounds_toArray, List.set_cons_zero, List.set_cons_succ]
          clear hK K
          refine wpAnyH_ready (rs := [5]) (by kernel_rfl) (by simp) ?_
          refine AllReadyH.cons rfl (fun K hK => ?_) AllReadyH.nil
          rw [if_pos (by rfl)]
          go_simp
          go_at_call 26
          refine (rchain_any c d V14 hc32.out hd32.out).mono ?_
          rintro e V15 ⟨rfl, hbe⟩
          have BV15 := Lib.hid (BV14.out.trans (hbe.mono BV14.out.size))
          clear hbe
          refine hK.out _ _ (range_below hRD BV15.out) (fun _ => ?_)
          try simp only [Act.put, List.setIfInBounds_toArray, List.set_cons_zero, List.set_cons_succ]
          clear hK K
          refine wpAnyH_ready (rs := [6]) (by kernel_rfl) (by simp) ?_
          refine AllReadyH.cons rfl (fun K hK => ?_) AllReadyH.nil
          rw [if_pos (by rfl)]
          refine wp_st (.tmp 5) (.tmp 24) rfl rfl ge c (tg (bts sChain) (c ++ d)) (E6.out.below BV15.out) hc32.out (tg_len _ _) rfl rfl ?_
          intro V16 DE6 hc6
          have hr6 : V16.rangeAt h 0 (d.map byt) := dg_range ((hc6.block h (Nat.lt_of_lt_of_le hme6 BV15.out.size) hme).trans (D6.out.below BV15.out))
          have DW6 : Hid (Dg V16 gw c) := Lib.hid ((hc6.block gw (Nat.lt_of_lt_of_le hgw6 BV15.out.size) (Ne.symm hne)).trans (W6.out.below BV15.out))
          refine hK.out _ _ hr6 (fun _ => ?_)
          try simp only [Act.put, List.setIfInBounds_toArray, List.set_cons_zero, List.set_cons_succ]
          clear hK K
          refine wpAnyH_ready (rs := [7]) (by kernel_rfl) (by simp) ?_
          refine AllReadyH.cons rfl (fun K hK => ?_) AllReadyH.nil
          rw [if_pos (by rfl)]
          refine wp_st (.tmp 6) (.tmp 27) rfl rfl gw c (tg (bts sChain) (c ++ d)) DW6.out hc32.out (tg_len _ _) rfl rfl ?_
          intro V17 DW7 hc7
          have hy6 := hc6.size
          have hr7 : V17.rangeAt h 0 (d.map byt) := dg_range ((hc7.block h (Nat.lt_of_lt_of_le (Nat.lt_of_lt_of_le hme6 BV15.out.size) hc6.size) hmw).trans ((hc6.block h (Nat.lt_of_lt_of_le hme6 BV15.out.size) hme).trans (D6.out.below BV15.out)))
          have DE7 : Hid (Dg V17 ge (tg (bts sChain) (c ++ d))) := Lib.hid ((hc7.block ge (Nat.lt_of_lt_of_le (Nat.lt_of_lt_of_le hge6 BV15.out.size) hc6.size) hne).trans DE6.out)
          refine hK.out _ _ hr7 (fun _ => ?_)
          try simp only [Act.put, List.setIfInBounds_toArray, List.set_cons_zero, List.set_cons_succ]
          clear hK K
          have D7 : Hid (Dg V17 h d) := Lib.hid ((hc7.block h (Nat.lt_of_lt_of_le (Nat.lt_of_lt_of_le hme6 BV15.out.size) hc6.size) hmw).trans ((hc6.block h (Nat.lt_of_lt_of_le hme6 BV15.out.size) hme).trans (D6.out.below BV15.out)))
          have C7 : Hid (Dg V17 g9 c) := Lib.hid ((hc7.block g9 (Nat.lt_of_lt_of_le (Nat.lt_of_lt_of_le hlt6 BV15.out.size) hc6.size) hcw).trans ((hc6.block g9 (Nat.lt_of_lt_of_le hlt6 BV15.out.size) hce).trans (C6.out.below BV15.out)))
          have L7 := Lib.hid (ld_chg (ld_chg (L6.out.below BV15.out) hc6 (fun a e => (hne5.out a e).1)) hc7 (fun a e => (hne5.out a e).2))
          have B8 := Lib.hid (Chg.below (Chg.below (B6.out.trans (BV15.out.mono B6.out.size)) (Nat.le_trans hmz BV15.out.size) hmE hc6) (Nat.le_trans (Nat.le_trans hmz BV15.out.size) hc6.size) hmW hc7)
          clear hr6 hr7 hc6 hc7 hy6 DW6 DE6
          refine wpAnyH_done (by kernel_rfl) ?_ _
          have K8 := Lib.hid (HK.out.below B8.out)
          have hx32 : Hid ((tg (bts sChain) (c ++ d)).length = 32) := Lib.hid (tg_len _ _)
          have hcx : Hid (tg (bts sChain) (([] ++ c) ++ d) = tg (bts sChain) (c ++ d)) := Lib.hid (by rw [List.nil_append])
          clear hRD E6 W6 D6 C6 L6 B6 K6 B7
          generalize tg (bts sChain) (c ++ d) = x at *
          have heq : ∀ w, (Op.equalIn 10000 26 (dgv x) (dgv x)).run Tryd.prog w = .ok true w := fun w => by rw [dg_equal _ _ hx32.out hx32.out, beq_self_eq_true]
          have hsx : (Tryd.prog.info? 26).map (·.size) = some (x.map byt).length := by rw [size26, List.length_map, hx32.out]
          have hRE := dg_range DE7.out
          have hRW := dg_range DW7.out
          go_wp2_with fail
          have A0 := Lib.hid (below_drew (Below.refl V17.heap.size V17))
          refine wp_region_held_drew (S := fun w' => w'.rangeAt ge 0 (x.map byt) ∧ w'.rangeAt gw 0 (x.map byt)) (by kernel_rfl) ⟨hRE, hRW⟩ (fun hHeld => ?_)
          refine take_at (i := 0) (k := 28) (v := dgv x) rfl rfl (by kernel_rfl) (by kernel_rfl) (by kernel_rfl) (fun _ _ _ h => h) (yieldsIf_load_mid (by rfl) 26 (.tmp 5) rfl ge 0 rfl (x.map byt) _ (fun w' h => h.1) Tryd.underlying26 rfl hsx) hHeld ?_
          try simp only [Act.put, List.setIfInBounds_toArray, List.set_cons_zero, List.set_cons_succ]
          refine take_at (i := 1) (k := 29) (v := dgv x) rfl rfl (by kernel_rfl) (by kernel_rfl) (by kernel_rfl) (fun _ _ _ h => h) (yieldsIf_load_mid (by rfl) 26 (.tmp 6) rfl gw 0 rfl (x.map byt) _ (fun w' h => h.2) Tryd.underlying26 rfl hsx) hHeld ?_
          try simp only [Act.put, List.setIfInBounds_toArray, List.set_cons_zero, List.set_cons_succ]
          refine take_at (i := 2) (k := 30) (v := .bool false) rfl rfl (by kernel_rfl) (by kernel_rfl) (by kernel_rfl) (fun _ _ _ h => h) (Or.inl ⟨by rfl, fun w _ => by go_simp⟩) hHeld ?_
          try simp only [Act.put, List.setIfInBounds_toArray, List.set_cons_zero, List.set_cons_succ]
          refine take_at (i := 3) (k := 31) (v := .bool false) rfl rfl (by kernel_rfl) (by kernel_rfl) (by kernel_rfl) (fun _ _ _ h => h) (Or.inl ⟨by rfl, fun w _ => rfl⟩) hHeld ?_
          try simp only [Act.put, List.setIfInBounds_toArray, List.set_cons_zero, List.set_cons_succ]
          refine take_at (i := 4) (k := 32) (v := dgv x) rfl rfl (by kernel_rfl) (by kernel_rfl) (by kernel_rfl) (fun _ _ _ h => h) (yieldsIf_load_mid (by rfl) 26 (.tmp 5) rfl ge 0 rfl (x.map byt) _ (fun w' h => h.1) Tryd.underlying26 rfl hsx) hHeld ?_
          try simp only [Act.put, List.setIfInBounds_toArray, List.set_cons_zero, List.set_cons_succ]
          refine take_at (i := 6) (k := 34) (v := .slice (some ⟨g9, 0, none⟩) 32 32) rfl rfl (by kernel_rfl) (by kernel_rfl) (by kernel_rfl) (fun _ _ _ h => h) (Or.inl ⟨by rfl, fun w _ => by go_simp⟩) hHeld ?_
          try simp only [Act.put, List.setIfInBounds_toArray, List.set_cons_zero, List.set_cons_succ]
          refine take_at (i := 8) (k := 36) (v := .slice (some ⟨h, 0, none⟩) 32 32) rfl rfl (by kernel_rfl) (by kernel_rfl) (by kernel_rfl) (fun _ _ _ h => h) (Or.inl ⟨by rfl, fun w _ => by go_simp⟩) hHeld ?_
          try simp only [Act.put, List.setIfInBounds_toArray, List.set_cons_zero, List.set_cons_succ]
          clear hHeld
          refine wpAnyH_ready (rs := [5]) (by kernel_rfl) (by simp) ?_
          refine AllReadyH.cons rfl (fun K hK => ?_) AllReadyH.nil
          rw [if_pos (by rfl)]
          refine wp_b0b rfl rfl ?_
          intro A1 g11 hbe11 hge11 hlt11 O11
          have A1B := Lib.hid (A0.out.trans (hbe11.mono A0.out.size))
          have hz11 := A0.out.size
          have ob11 : ∀ j, (Value.slice (some ⟨g11, 0, none⟩) 0 0).ownBlock = some j → V17.heap.size ≤ j := fun j e => by
            have e' : g11 = j := Option.some.inj e
            subst e'
            exact Nat.le_trans hz11 hge11
          clear hbe11
          refine hK.out _ _ ⟨range_below hRE A1B.out, range_below hRW A1B.out⟩ (fun _ => ?_)
          try simp only [Act.put, List.setIfInBounds_toArray, List.set_cons_zero, List.set_cons_succ]
          clear hK K
          refine wpAnyH_ready (rs := [7]) (by kernel_rfl) (by simp) ?_
          refine AllReadyH.cons rfl (fun K hK => ?_) AllReadyH.nil
          rw [if_pos (by rfl)]
          refine wp_apb rfl (.tmp 33) (.tmp 34) rfl (.slice (some ⟨g11, 0, none⟩) 0 0) (.slice (some ⟨g9, 0, none⟩) 32 32) ([] : List UInt8) c rfl O11.out rfl (dg_bv (C7.out.below A1B.out) hc32.out) (by simp [hc32.out]) ?_
          intro v12 A2 O12 hg12 hv12
          have A2B := Lib.hid (grown_below A1B.out A1B.out.size hg12 ob11)
          have ob12 := own_grown_lt ob11 A1B.out.size hv12
          clear hg12 hv12
          refine hK.out _ _ ⟨range_below hRE A2B.out, range_below hRW A2B.out⟩ (fun _ => ?_)
          try simp only [Act.put, List.setIfInBounds_toArray, List.set_cons_zero, List.set_cons_succ]
          clear hK K
          refine wpAnyH_ready (rs := [9]) (by kernel_rfl) (by simp) ?_
          refine AllReadyH.cons rfl (fun K hK => ?_) AllReadyH.nil
          rw [if_pos (by rfl)]
          refine wp_apb rfl (.tmp 35) (.tmp 36) rfl v12 (.slice (some ⟨h, 0, none⟩) 32 32) ([] ++ c) d rfl O12.out rfl (dg_bv (D7.out.below A2B.out) hd32.out) (by simp [hc32.out, hd32.out]) ?_
          intro v13 A3 O13 hg13 hv13
          have A3B := Lib.hid (grown_below A2B.out A2B.out.size hg13 ob12)
          clear hg13 hv13
          refine hK.out _ _ ⟨range_below hRE A3B.out, range_below hRW A3B.out⟩ (fun _ => ?_)
          try simp only [Act.put, List.setIfInBounds_toArray, List.set_cons_zero, List.set_cons_succ]
          clear hK K
          refine wpAnyH_ready (rs := [10]) (by kernel_rfl) (by simp) ?_
          refine AllReadyH.cons rfl (fun K hK => ?_) AllReadyH.nil
          rw [if_pos (by rfl)]
          go_simp
          go_at_call 14
          refine (tagged_any sChain v13 (([] ++ c) ++ d) A3 (by decide) (own_bv O13.out) (by simp [hc32.out, hd32.out]) (K8.out.below A3B.out)).mono ?_
          rintro e A4 ⟨rfl, hbe14⟩
          rw [hcx.out]
          have A4B := Lib.hid (A3B.out.trans (hbe14.mono A3B.out.size))
          clear hbe14
          have hHeld : A4.rangeAt ge 0 (x.map byt) ∧ A4.rangeAt gw 0 (x.map byt) := ⟨range_below hRE A4B.out, range_below hRW A4B.out⟩
          refine hK.out _ _ hHeld (fun _ => ?_)
          try simp only [Act.put, List.setIfInBounds_toArray, List.set_cons_zero, List.set_cons_succ]
          clear hK K
          refine take_at (i := 11) (k := 39) (v := .bool false) rfl rfl (by kernel_rfl) (by kernel_rfl) (by kernel_rfl) (fun _ _ _ h => h) (Or.inl ⟨by rfl, fun w _ => by go_simp⟩) hHeld ?_
          try simp only [Act.put, List.setIfInBounds_toArray, List.set_cons_zero, List.set_cons_succ]
          refine take_at (i := 12) (k := 40) (v := .bool false) rfl rfl (by kernel_rfl) (by kernel_rfl) (by kernel_rfl) (fun _ _ _ h => h) (Or.inl ⟨by rfl, fun w _ => rfl⟩) hHeld ?_
          try simp only [Act.put, List.setIfInBounds_toArray, List.set_cons_zero, List.set_cons_succ]
          refine wpAnyH_done (by kernel_rfl) ?_ _
          clear hHeld hRE hRW
          go_wp2_with fail
          go_roundw
          case rel => exact ⟨k + 1, x, by omega, by go_num, hx32, Lib.hid (DE7.out.below A4B.out), Lib.hid (DW7.out.below A4B.out), Lib.hid (L7.out.below A4B.out), Lib.hid (B8.out.trans (A4B.out.mono B8.out.size))⟩
          case measure => simp [intOf]; omega
      · have c1 : ¬ ((k : Nat) : Int) < (n : Int) := by omega
        go_wp2_with fail
        go_ret
        exact ⟨rfl, hB.out⟩
end Go.Proofs.YtekboemijafplaaDoor
