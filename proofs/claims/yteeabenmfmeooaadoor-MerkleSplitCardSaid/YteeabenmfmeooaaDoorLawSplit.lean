/-
  Merkle: the law MerkleSplit.
-/
import Derived.Test.YteeabenmfmeooaaDoorPp
import Derived.Test.YteeabenmfmeooaaDoorAp
import Derived.Test.YteeabenmfmeooaaDoorSn
import Derived.Test.YteeabenmfmeooaaDoorNx
namespace Go.Proofs.YteeabenmfmeooaaDoor
open Go Go.RowKit
set_option maxRecDepth 100000 in
set_option maxHeartbeats 8000000 in
theorem split_law (v : Value) (l : List (List UInt8)) (w : World) (hv' : LB w v l) (hk : KOK w) : Calls Tryd.prog 8 #[v] w (Ret (.bool true) w) := by
  have HV := Lib.hid hv'
  have HK := Lib.hid hk
  have SN := Lib.hid (sane_any w hk)
  have FW := Lib.hid fun (U : World) (hb : Below w.heap.size w U) => few_any v l U (hv'.below hb)
  obtain ⟨p, c, hvf⟩ : ∃ p c, v = .slice p l.length c := by
    obtain ⟨_, c, p, e, _⟩ := hv'
    exact ⟨p, c, e⟩
  clear hv' hk
  cases hf : fewB l
  · rw [hf] at FW
    subst hvf
    go_enter Tryd.func8, Tryd.ntmps8
    go_wp2_with (first
      | (go_at_call 10; refine SN.out.mono ?_; rintro e w1 ⟨rfl, hb1⟩; have HB1 := Lib.hid hb1; clear SN)
      | (go_at_call 11; refine (FW.out _ HB1.out).mono ?_; rintro e w2 ⟨rfl, rfl⟩))
    go_ret
    exact ⟨rfl, HB1.out⟩
  have hfy := few_yes hf
  rw [hf] at FW
  by_cases hn2 : l.length < 2
  · have hn2I : (l.length : Int) < 2 := by omega
    subst hvf
    clear hfy
    go_enter Tryd.func8, Tryd.ntmps8
    go_wp2_with (first
      | (go_at_call 10; refine SN.out.mono ?_; rintro e w1 ⟨rfl, hb1⟩; have HB1 := Lib.hid hb1; clear SN)
      | (go_at_call 11; refine (FW.out _ HB1.out).mono ?_; rintro e w2 ⟨rfl, rfl⟩))
    go_ret
    exact ⟨rfl, HB1.out⟩
  have hn2I : ¬ (l.length : Int) < 2 := by omega
  have HFY := Lib.hid hfy
  obtain ⟨b, cap, p', hve, hc1, hc2, _, hc4⟩ := HV.out
  rw [hve] at hvf
  cases hvf
  rcases hc4 with hnil | ⟨o, hp', _, _⟩
  · rw [hnil] at hn2; simp at hn2
  subst hp'
  subst hve
  obtain ⟨n, hnn⟩ : ∃ n, n = l.length := ⟨_, rfl⟩
  have HN := Lib.hid hnn
  have hn40 : n ≤ 40 := by omega
  have hn2' : 2 ≤ n := by omega
  unfold maxLen at hc2
  rw [← hnn] at hc1 hn2I HV FW ⊢
  clear hfy hf hn2 hnn
  go_enter Tryd.func8, Tryd.ntmps8
  go_wp2_with (first
    | (go_at_call 10; refine SN.out.mono ?_; rintro e w1 ⟨rfl, hb1⟩; have HB1 := Lib.hid hb1; clear SN)
    | (go_at_call 11; refine (FW.out _ HB1.out).mono ?_; rintro e w2 ⟨rfl, rfl⟩; clear FW))
  go_loopw [3] (fun i wr => ∃ k : Nat, i = .int .i64 (k : Int) ∧ 0 < k ∧ k < n ∧ Hid (∃ j, k = 2 ^ j) ∧ wr = w2) (fun i _ => 64 - (intOf i).toNat)
  case atStart => exact ⟨1, rfl, by omega, by omega, Lib.hid ⟨0, rfl⟩, rfl⟩
  case round =>
    obtain ⟨k, rfl, hk0, hkn, HJ, rfl⟩ := hrel
    have f1 : IntKind.i64.wrap (2 * (k : Int)) = ((2 * k : Nat) : Int) := by rw [IntKind.wrap_i64]; omega
    by_cases h2 : 2 * k < n
    · have h2I : ((2 * k : Nat) : Int) < (n : Int) := by omega
      go_wp2_with fail
      go_roundw
      case rel => exact ⟨2 * k, by go_num, by omega, by omega, Lib.hid (by obtain ⟨j, hj⟩ := HJ.out; exact ⟨j + 1, by rw [hj, Nat.pow_succ]; omega⟩), trivial⟩
      case measure => simp [intOf]; omega
    · have h2I : ¬ ((2 * k : Nat) : Int) < (n : Int) := by omega
      have hsp : rootD l = tg (bts sNode) (rootD (l.take k) ++ rootD (l.drop k)) := by
        obtain ⟨j, rfl⟩ := HJ.out
        exact rootD_split j l (by have := HN.out; omega) (by have := HN.out; omega)
      have HSP := Lib.hid hsp
      have hnn := HN.out
      have hta : (l.take k).length = k := by rw [List.length_take]; omega
      have htb : (l.drop k).length = n - k := by rw [List.length_drop]; omega
      have ones' : ∀ x ∈ l, x.length ≤ 1000000 := fun x hx => by have := HFY.out.2 x hx; omega
      have hva := HV.out.pre k (by omega)
      have hvb := HV.out.suf k (by omega)
      have CA := Lib.hid (fun (U : World) (hb : Below wr.heap.size wr U) => Root_any _ (l.take k) U ((hva.below HB1.out).below hb) (by rw [hta]; omega) (fun x hx => ones' x (List.mem_of_mem_take hx)) (HK.out.below (HB1.out.trans (hb.mono HB1.out.size))))
      have CB := Lib.hid (fun (U : World) (hb : Below wr.heap.size wr U) => Root_any _ (l.drop k) U ((hvb.below HB1.out).below hb) (by rw [htb]; omega) (fun x hx => ones' x (List.mem_of_mem_drop hx)) (HK.out.below (HB1.out.trans (hb.mono HB1.out.size))))
      have CL := Lib.hid (fun (U : World) (hb : Below wr.heap.size wr U) => Root_any _ l U ((HV.out.below HB1.out).below hb) (by omega) ones' (HK.out.below (HB1.out.trans (hb.mono HB1.out.size))))
      have hla := rootD_len (l.take k)
      have hlb := rootD_len (l.drop k)
      have hlR := rootD_len l
      clear hsp hta htb ones' hva hvb hnn HJ HFY HN
      generalize rootD (l.take k) = RA at *
      generalize rootD (l.drop k) = RB at *
      generalize rootD l = RL at *
      have i1 : (k : Int) ≤ (c : Int) := by omega
      have i2 : (k : Int) ≤ (n : Int) := by omega
      have i3 : (n : Int) ≤ (c : Int) := by omega
      have hcn : ¬ (c = k) := by omega
      go_upto_region 8 with fail
      go_cut [4, 5] from 23 to 39 (fun s4 s5 wc => ∃ ga gb : Nat, s4 = .pointer (some ⟨ga, 0, none⟩) ∧ s5 = .pointer (some ⟨gb, 0, none⟩) ∧ Hid (Dg wc ga RA) ∧ Hid (Dg wc gb RB) ∧ Hid (Below wr.heap.size wr wc))
      case first =>
        clear HSP CL
        refine wp_only ?_
        have B0 : Hid (Below wr.heap.size wr wr.drew) := Lib.hid (below_drew (Below.refl _ _))
        refine wp_region_held_drew (S := fun _ => True) (by kernel_rfl) trivial (fun hHeld => ?_)
        refine take_at (i := 0) (k := 23) (v := .slice (some ⟨b, o, none⟩) n c) rfl rfl (by kernel_rfl) (by kernel_rfl) (by kernel_rfl) (fun _ _ _ h => h) (Or.inl ⟨by rfl, fun w _ => by go_simp⟩) hHeld ?_
        try simp only [Act.put, List.setIfInBounds_toArray, List.set_cons_zero, List.set_cons_succ]
        refine take_at (i := 1) (k := 24) (v := .int .i64 (k : Int)) rfl rfl (by kernel_rfl) (by kernel_rfl) (by kernel_rfl) (fun _ _ _ h => h) (Or.inl ⟨by rfl, fun w _ => by go_simp⟩) hHeld ?_
        try simp only [Act.put, List.setIfInBounds_toArray, List.set_cons_zero, List.set_cons_succ]
        refine take_at (i := 2) (k := 25) (v := .slice (some ⟨b, o, none⟩) k c) rfl rfl (by kernel_rfl) (by kernel_rfl) (by kernel_rfl) (fun _ _ _ h => h) (Or.inl ⟨by rfl, fun w _ => by go_simp⟩) hHeld ?_
        try simp only [Act.put, List.setIfInBounds_toArray, List.set_cons_zero, List.set_cons_succ]
        refine take_at (i := 4) (k := 27) (v := .slice (some ⟨b, o, none⟩) n c) rfl rfl (by kernel_rfl) (by kernel_rfl) (by kernel_rfl) (fun _ _ _ h => h) (Or.inl ⟨by rfl, fun w _ => by go_simp⟩) hHeld ?_
        try simp only [Act.put, List.setIfInBounds_toArray, List.set_cons_zero, List.set_cons_succ]
        refine take_at (i := 5) (k := 28) (v := .int .i64 (k : Int)) rfl rfl (by kernel_rfl) (by kernel_rfl) (by kernel_rfl) (fun _ _ _ h => h) (Or.inl ⟨by rfl, fun w _ => by go_simp⟩) hHeld ?_
        try simp only [Act.put, List.setIfInBounds_toArray, List.set_cons_zero, List.set_cons_succ]
        refine take_at (i := 6) (k := 29) (v := .slice (some ⟨b, o + k, none⟩) (n - k) (c - k)) rfl rfl (by kernel_rfl) (by kernel_rfl) (by kernel_rfl) (fun _ _ _ h => h) (Or.inl ⟨by rfl, fun w _ => by go_simp⟩) hHeld ?_
        try simp only [Act.put, List.setIfInBounds_toArray, List.set_cons_zero, List.set_cons_succ]
        clear hHeld
        refine wpAnyH_ready (rs := [3, 8, 9]) (by kernel_rfl) (by simp) ?_
        refine AllReadyH.cons rfl (fun K hK => ?_) (AllReadyH.cons rfl (fun K hK => ?_) (AllReadyH.cons rfl (fun K hK => ?_) AllReadyH.nil))
        · rw [if_pos (by rfl)]
          go_simp
          go_at_call 14
          refine (CA.out _ B0.out).mono ?_
          rintro e U1 ⟨rfl, hba1⟩
          have B1 := Lib.hid (B0.out.trans (hba1.mono B0.out.size))
          refine hK.out _ _ (Lib.hid trivial : Hid True).out (fun hHeld => ?_)
          try simp only [Act.put, List.setIfInBounds_toArray, List.set_cons_zero, List.set_cons_succ]
          clear hK K
          clear hHeld
          refine wpAnyH_ready (rs := [7, 8, 9]) (by kernel_rfl) (by simp) ?_
          refine AllReadyH.cons rfl (fun K hK => ?_) (AllReadyH.cons rfl (fun K hK => ?_) (AllReadyH.cons rfl (fun K hK => ?_) AllReadyH.nil))
          · rw [if_pos (by rfl)]
            go_simp
            go_at_call 14
            refine (CB.out _ B1.out).mono ?_
            rintro e U2 ⟨rfl, hba2⟩
            have B2 := Lib.hid (B1.out.trans (hba2.mono B1.out.size))
            refine hK.out _ _ (Lib.hid trivial : Hid True).out (fun hHeld => ?_)
            try simp only [Act.put, List.setIfInBounds_toArray, List.set_cons_zero, List.set_cons_succ]
            clear hK K
            clear hHeld
            refine wpAnyH_ready (rs := [8, 9]) (by kernel_rfl) (by simp) ?_
            refine AllReadyH.cons rfl (fun K hK => ?_) (AllReadyH.cons rfl (fun K hK => ?_) AllReadyH.nil)
            · rw [if_pos (by rfl)]
              refine al_op rfl rfl ?_
              rintro U3 ga3 hba3 hga3 hz3
              have ge3 := Nat.le_trans B2.out.size hga3
              have B3 := Lib.hid (B2.out.trans (hba3.mono B2.out.size))
              refine hK.out _ _ (Lib.hid trivial : Hid True).out (fun hHeld => ?_)
              try simp only [Act.put, List.setIfInBounds_toArray, List.set_cons_zero, List.set_cons_succ]
              clear hK K
              clear hHeld
              refine wpAnyH_ready (rs := [9]) (by kernel_rfl) (by simp) ?_
              refine AllReadyH.cons rfl (fun K hK => ?_) AllReadyH.nil
              rw [if_pos (by rfl)]
              refine al_op rfl rfl ?_
              rintro U4 ga4 hba4 hga4 hz4
              have ne4_a : ga3 ≠ ga4 := by have := hz3.out.lt; omega
              have ge4 := Nat.le_trans B3.out.size hga4
              have B4 := Lib.hid (B3.out.trans (hba4.mono B3.out.size))
              have z4_a := Lib.hid (hz3.out.below hba4)
              refine hK.out _ _ (Lib.hid trivial : Hid True).out (fun hHeld => ?_)
              try simp only [Act.put, List.setIfInBounds_toArray, List.set_cons_zero, List.set_cons_succ]
              clear hK K
              clear hHeld
              refine wpAnyH_ready (rs := [10]) (by kernel_rfl) (by simp) ?_
              refine AllReadyH.cons rfl (fun K hK => ?_) AllReadyH.nil
              rw [if_pos (by rfl)]
              refine dg_op (.tmp 4) (.tmp 26) rfl ga3 _ _ z4_a.out (by simp) hla rfl rfl ?_
              rintro U5 hd5 hc5
              have B5 := Lib.hid (Chg.below B4.out B4.out.size ge3 hc5)
              have z5_b := Lib.hid (Dg.other hz4.out hc5 ne4_a.symm)
              refine hK.out _ _ (Lib.hid trivial : Hid True).out (fun hHeld => ?_)
              try simp only [Act.put, List.setIfInBounds_toArray, List.set_cons_zero, List.set_cons_succ]
              clear hK K
              clear hHeld
              refine wpAnyH_ready (rs := [11]) (by kernel_rfl) (by simp) ?_
              refine AllReadyH.cons rfl (fun K hK => ?_) AllReadyH.nil
              rw [if_pos (by rfl)]
              refine dg_op (.tmp 5) (.tmp 30) rfl ga4 _ _ z5_b.out (by simp) hlb rfl rfl ?_
              rintro U6 hd6 hc6
              have B6 := Lib.hid (Chg.below B5.out B5.out.size ge4 hc6)
              have z6_a := Lib.hid (Dg.other hd5.out hc6 ne4_a)
              refine hK.out _ _ (Lib.hid trivial : Hid True).out (fun hHeld => ?_)
              try simp only [Act.put, List.setIfInBounds_toArray, List.set_cons_zero, List.set_cons_succ]
              clear hK K
              clear hHeld
              refine wpAnyH_done (by kernel_rfl) ?_ _
              go_wp2_with fail
              go_meet
              case rel => exact ⟨ga3, ga4, rfl, rfl, z6_a, hd6, B6⟩
            · rw [if_pos (by rfl)]
              refine al_op rfl rfl ?_
              rintro U3 ga3 hba3 hga3 hz3
              have ge3 := Nat.le_trans B2.out.size hga3
              have B3 := Lib.hid (B2.out.trans (hba3.mono B2.out.size))
              refine hK.out _ _ (Lib.hid trivial : Hid True).out (fun hHeld => ?_)
              try simp only [Act.put, List.setIfInBounds_toArray, List.set_cons_zero, List.set_cons_succ]
              clear hK K
              clear hHeld
              refine wpAnyH_ready (rs := [8]) (by kernel_rfl) (by simp) ?_
              refine AllReadyH.cons rfl (fun K hK => ?_) AllReadyH.nil
              rw [if_pos (by rfl)]
              refine al_op rfl rfl ?_
              rintro U4 ga4 hba4 hga4 hz4
              have ne4_b : ga3 ≠ ga4 := by have := hz3.out.lt; omega
              have ge4 := Nat.le_trans B3.out.size hga4
              have B4 := Lib.hid (B3.out.trans (hba4.mono B3.out.size))
              have z4_b := Lib.hid (hz3.out.below hba4)
              refine hK.out _ _ (Lib.hid trivial : Hid True).out (fun hHeld => ?_)
              try simp only [Act.put, List.setIfInBounds_toArray, List.set_cons_zero, List.set_cons_succ]
              clear hK K
              clear hHeld
              refine wpAnyH_ready (rs := [10]) (by kernel_rfl) (by simp) ?_
              refine AllReadyH.cons rfl (fun K hK => ?_) AllReadyH.nil
              rw [if_pos (by rfl)]
              refine dg_op (.tmp 4) (.tmp 26) rfl ga4 _ _ hz4.out (by simp) hla rfl rfl ?_
              rintro U5 hd5 hc5
              have B5 := Lib.hid (Chg.below B4.out B4.out.size ge4 hc5)
              have z5_b := Lib.hid (Dg.other z4_b.out hc5 ne4_b)
              refine hK.out _ _ (Lib.hid trivial : Hid True).out (fun hHeld => ?_)
              try simp only [Act.put, List.setIfInBounds_toArray, List.set_cons_zero, List.set_cons_succ]
              clear hK K
              clear hHeld
              refine wpAnyH_ready (rs := [11]) (by kernel_rfl) (by simp) ?_
              refine AllReadyH.cons rfl (fun K hK => ?_) AllReadyH.nil
              rw [if_pos (by rfl)]
              refine dg_op (.tmp 5) (.tmp 30) rfl ga3 _ _ z5_b.out (by simp) hlb rfl rfl ?_
              rintro U6 hd6 hc6
              have B6 := Lib.hid (Chg.below B5.out B5.out.size ge3 hc6)
              have z6_a := Lib.hid (Dg.other hd5.out hc6 ne4_b.symm)
              refine hK.out _ _ (Lib.hid trivial : Hid True).out (fun hHeld => ?_)
              try simp only [Act.put, List.setIfInBounds_toArray, List.set_cons_zero, List.set_cons_succ]
              clear hK K
              clear hHeld
              refine wpAnyH_done (by kernel_rfl) ?_ _
              go_wp2_with fail
              go_meet
              case rel => exact ⟨ga4, ga3, rfl, rfl, z6_a, hd6, B6⟩
          · rw [if_pos (by rfl)]
            refine al_op rfl rfl ?_
            rintro U2 ga2 hba2 hga2 hz2
            have ge2 := Nat.le_trans B1.out.size hga2
            have B2 := Lib.hid (B1.out.trans (hba2.mono B1.out.size))
            refine hK.out _ _ (Lib.hid trivial : Hid True).out (fun hHeld => ?_)
            try simp only [Act.put, List.setIfInBounds_toArray, List.set_cons_zero, List.set_cons_succ]
            clear hK K
            clear hHeld
            refine wpAnyH_ready (rs := [7, 9]) (by kernel_rfl) (by simp) ?_
            refine AllReadyH.cons rfl (fun K hK => ?_) (AllReadyH.cons rfl (fun K hK => ?_) AllReadyH.nil)
            · rw [if_pos (by rfl)]
              go_simp
              go_at_call 14
              refine (CB.out _ B2.out).mono ?_
              rintro e U3 ⟨rfl, hba3⟩
              have B3 := Lib.hid (B2.out.trans (hba3.mono B2.out.size))
              have z3_a := Lib.hid (hz2.out.below hba3)
              refine hK.out _ _ (Lib.hid trivial : Hid True).out (fun hHeld => ?_)
              try simp only [Act.put, List.setIfInBounds_toArray, List.set_cons_zero, List.set_cons_succ]
              clear hK K
              clear hHeld
              refine wpAnyH_ready (rs := [9]) (by kernel_rfl) (by simp) ?_
              refine AllReadyH.cons rfl (fun K hK => ?_) AllReadyH.nil
              rw [if_pos (by rfl)]
              refine al_op rfl rfl ?_
              rintro U4 ga4 hba4 hga4 hz4
              have ne4_a : ga2 ≠ ga4 := by have := z3_a.out.lt; omega
              have ge4 := Nat.le_trans B3.out.size hga4
              have B4 := Lib.hid (B3.out.trans (hba4.mono B3.out.size))
              have z4_a := Lib.hid (z3_a.out.below hba4)
              refine hK.out _ _ (Lib.hid trivial : Hid True).out (fun hHeld => ?_)
              try simp only [Act.put, List.setIfInBounds_toArray, List.set_cons_zero, List.set_cons_succ]
              clear hK K
              clear hHeld
              refine wpAnyH_ready (rs := [10]) (by kernel_rfl) (by simp) ?_
              refine AllReadyH.cons rfl (fun K hK => ?_) AllReadyH.nil
              rw [if_pos (by rfl)]
              refine dg_op (.tmp 4) (.tmp 26) rfl ga2 _ _ z4_a.out (by simp) hla rfl rfl ?_
              rintro U5 hd5 hc5
              have B5 := Lib.hid (Chg.below B4.out B4.out.size ge2 hc5)
              have z5_b := Lib.hid (Dg.other hz4.out hc5 ne4_a.symm)
              refine hK.out _ _ (Lib.hid trivial : Hid True).out (fun hHeld => ?_)
              try simp only [Act.put, List.setIfInBounds_toArray, List.set_cons_zero, List.set_cons_succ]
              clear hK K
              clear hHeld
              refine wpAnyH_ready (rs := [11]) (by kernel_rfl) (by simp) ?_
              refine AllReadyH.cons rfl (fun K hK => ?_) AllReadyH.nil
              rw [if_pos (by rfl)]
              refine dg_op (.tmp 5) (.tmp 30) rfl ga4 _ _ z5_b.out (by simp) hlb rfl rfl ?_
              rintro U6 hd6 hc6
              have B6 := Lib.hid (Chg.below B5.out B5.out.size ge4 hc6)
              have z6_a := Lib.hid (Dg.other hd5.out hc6 ne4_a)
              refine hK.out _ _ (Lib.hid trivial : Hid True).out (fun hHeld => ?_)
              try simp only [Act.put, List.setIfInBounds_toArray, List.set_cons_zero, List.set_cons_succ]
              clear hK K
              clear hHeld
              refine wpAnyH_done (by kernel_rfl) ?_ _
              go_wp2_with fail
              go_meet
              case rel => exact ⟨ga2, ga4, rfl, rfl, z6_a, hd6, B6⟩
            · rw [if_pos (by rfl)]
              refine al_op rfl rfl ?_
              rintro U3 ga3 hba3 hga3 hz3
              have ne3_a : ga2 ≠ ga3 := by have := hz2.out.lt; omega
              have ge3 := Nat.le_trans B2.out.size hga3
              have B3 := Lib.hid (B2.out.trans (hba3.mono B2.out.size))
              have z3_a := Lib.hid (hz2.out.below hba3)
              refine hK.out _ _ (Lib.hid trivial : Hid True).out (fun hHeld => ?_)
              try simp only [Act.put, List.setIfInBounds_toArray, List.set_cons_zero, List.set_cons_succ]
              clear hK K
              clear hHeld
              refine wpAnyH_ready (rs := [7]) (by kernel_rfl) (by simp) ?_
              refine AllReadyH.cons rfl (fun K hK => ?_) AllReadyH.nil
              rw [if_pos (by rfl)]
              go_simp
              go_at_call 14
              refine (CB.out _ B3.out).mono ?_
              rintro e U4 ⟨rfl, hba4⟩
              have B4 := Lib.hid (B3.out.trans (hba4.mono B3.out.size))
              have z4_a := Lib.hid (z3_a.out.below hba4)
              have z4_b := Lib.hid (hz3.out.below hba4)
              refine hK.out _ _ (Lib.hid trivial : Hid True).out (fun hHeld => ?_)
              try simp only [Act.put, List.setIfInBounds_toArray, List.set_cons_zero, List.set_cons_succ]
              clear hK K
              clear hHeld
              refine wpAnyH_ready (rs := [10]) (by kernel_rfl) (by simp) ?_
              refine AllReadyH.cons rfl (fun K hK => ?_) AllReadyH.nil
              rw [if_pos (by rfl)]
              refine dg_op (.tmp 4) (.tmp 26) rfl ga2 _ _ z4_a.out (by simp) hla rfl rfl ?_
              rintro U5 hd5 hc5
              have B5 := Lib.hid (Chg.below B4.out B4.out.size ge2 hc5)
              have z5_b := Lib.hid (Dg.other z4_b.out hc5 ne3_a.symm)
              refine hK.out _ _ (Lib.hid trivial : Hid True).out (fun hHeld => ?_)
              try simp only [Act.put, List.setIfInBounds_toArray, List.set_cons_zero, List.set_cons_succ]
              clear hK K
              clear hHeld
              refine wpAnyH_ready (rs := [11]) (by kernel_rfl) (by simp) ?_
              refine AllReadyH.cons rfl (fun K hK => ?_) AllReadyH.nil
              rw [if_pos (by rfl)]
              refine dg_op (.tmp 5) (.tmp 30) rfl ga3 _ _ z5_b.out (by simp) hlb rfl rfl ?_
              rintro U6 hd6 hc6
              have B6 := Lib.hid (Chg.below B5.out B5.out.size ge3 hc6)
              have z6_a := Lib.hid (Dg.other hd5.out hc6 ne3_a)
              refine hK.out _ _ (Lib.hid trivial : Hid True).out (fun hHeld => ?_)
              try simp only [Act.put, List.setIfInBounds_toArray, List.set_cons_zero, List.set_cons_succ]
              clear hK K
              clear hHeld
              refine wpAnyH_done (by kernel_rfl) ?_ _
              go_wp2_with fail
              go_meet
              case rel => exact ⟨ga2, ga3, rfl, rfl, z6_a, hd6, B6⟩
          · rw [if_pos (by rfl)]
            refine al_op rfl rfl ?_
            rintro U2 ga2 hba2 hga2 hz2
            have ge2 := Nat.le_trans B1.out.size hga2
            have B2 := Lib.hid (B1.out.trans (hba2.mono B1.out.size))
            refine hK.out _ _ (Lib.hid trivial : Hid True).out (fun hHeld => ?_)
            try simp only [Act.put, List.setIfInBounds_toArray, List.set_cons_zero, List.set_cons_succ]
            clear hK K
            clear hHeld
            refine wpAnyH_ready (rs := [7, 8]) (by kernel_rfl) (by simp) ?_
            refine AllReadyH.cons rfl (fun K hK => ?_) (AllReadyH.cons rfl (fun K hK => ?_) AllReadyH.nil)
            · rw [if_pos (by rfl)]
              go_simp
              go_at_call 14
              refine (CB.out _ B2.out).mono ?_
              rintro e U3 ⟨rfl, hba3⟩
              have B3 := Lib.hid (B2.out.trans (hba3.mono B2.out.size))
              have z3_b := Lib.hid (hz2.out.below hba3)
              refine hK.out _ _ (Lib.hid trivial : Hid True).out (fun hHeld => ?_)
              try simp only [Act.put, List.setIfInBounds_toArray, List.set_cons_zero, List.set_cons_succ]
              clear hK K
              clear hHeld
              refine wpAnyH_ready (rs := [8]) (by kernel_rfl) (by simp) ?_
              refine AllReadyH.cons rfl (fun K hK => ?_) AllReadyH.nil
              rw [if_pos (by rfl)]
              refine al_op rfl rfl ?_
              rintro U4 ga4 hba4 hga4 hz4
              have ne4_b : ga2 ≠ ga4 := by have := z3_b.out.lt; omega
              have ge4 := Nat.le_trans B3.out.size hga4
              have B4 := Lib.hid (B3.out.trans (hba4.mono B3.out.size))
              have z4_b := Lib.hid (z3_b.out.below hba4)
              refine hK.out _ _ (Lib.hid trivial : Hid True).out (fun hHeld => ?_)
              try simp only [Act.put, List.setIfInBounds_toArray, List.set_cons_zero, List.set_cons_succ]
              clear hK K
              clear hHeld
              refine wpAnyH_ready (rs := [10]) (by kernel_rfl) (by simp) ?_
              refine AllReadyH.cons rfl (fun K hK => ?_) AllReadyH.nil
              rw [if_pos (by rfl)]
              refine dg_op (.tmp 4) (.tmp 26) rfl ga4 _ _ hz4.out (by simp) hla rfl rfl ?_
              rintro U5 hd5 hc5
              have B5 := Lib.hid (Chg.below B4.out B4.out.size ge4 hc5)
              have z5_b := Lib.hid (Dg.other z4_b.out hc5 ne4_b)
              refine hK.out _ _ (Lib.hid trivial : Hid True).out (fun hHeld => ?_)
              try simp only [Act.put, List.setIfInBounds_toArray, List.set_cons_zero, List.set_cons_succ]
              clear hK K
              clear hHeld
              refine wpAnyH_ready (rs := [11]) (by kernel_rfl) (by simp) ?_
              refine AllReadyH.cons rfl (fun K hK => ?_) AllReadyH.nil
              rw [if_pos (by rfl)]
              refine dg_op (.tmp 5) (.tmp 30) rfl ga2 _ _ z5_b.out (by simp) hlb rfl rfl ?_
              rintro U6 hd6 hc6
              have B6 := Lib.hid (Chg.below B5.out B5.out.size ge2 hc6)
              have z6_a := Lib.hid (Dg.other hd5.out hc6 ne4_b.symm)
              refine hK.out _ _ (Lib.hid trivial : Hid True).out (fun hHeld => ?_)
              try simp only [Act.put, List.setIfInBounds_toArray, List.set_cons_zero, List.set_cons_succ]
              clear hK K
              clear hHeld
              refine wpAnyH_done (by kernel_rfl) ?_ _
              go_wp2_with fail
              go_meet
              case rel => exact ⟨ga4, ga2, rfl, rfl, z6_a, hd6, B6⟩
            · rw [if_pos (by rfl)]
              refine al_op rfl rfl ?_
              rintro U3 ga3 hba3 hga3 hz3
              have ne3_b : ga2 ≠ ga3 := by have := hz2.out.lt; omega
              have ge3 := Nat.le_trans B2.out.size hga3
              have B3 := Lib.hid (B2.out.trans (hba3.mono B2.out.size))
              have z3_b := Lib.hid (hz2.out.below hba3)
              refine hK.out _ _ (Lib.hid trivial : Hid True).out (fun hHeld => ?_)
              try simp only [Act.put, List.setIfInBounds_toArray, List.set_cons_zero, List.set_cons_succ]
              clear hK K
              clear hHeld
              refine wpAnyH_ready (rs := [7]) (by kernel_rfl) (by simp) ?_
              refine AllReadyH.cons rfl (fun K hK => ?_) AllReadyH.nil
              rw [if_pos (by rfl)]
              go_simp
              go_at_call 14
              refine (CB.out _ B3.out).mono ?_
              rintro e U4 ⟨rfl, hba4⟩
              have B4 := Lib.hid (B3.out.trans (hba4.mono B3.out.size))
              have z4_b := Lib.hid (z3_b.out.below hba4)
              have z4_a := Lib.hid (hz3.out.below hba4)
              refine hK.out _ _ (Lib.hid trivial : Hid True).out (fun hHeld => ?_)
              try simp only [Act.put, List.setIfInBounds_toArray, List.set_cons_zero, List.set_cons_succ]
              clear hK K
              clear hHeld
              refine wpAnyH_ready (rs := [10]) (by kernel_rfl) (by simp) ?_
              refine AllReadyH.cons rfl (fun K hK => ?_) AllReadyH.nil
              rw [if_pos (by rfl)]
              refine dg_op (.tmp 4) (.tmp 26) rfl ga3 _ _ z4_a.out (by simp) hla rfl rfl ?_
              rintro U5 hd5 hc5
              have B5 := Lib.hid (Chg.below B4.out B4.out.size ge3 hc5)
              have z5_b := Lib.hid (Dg.other z4_b.out hc5 ne3_b)
              refine hK.out _ _ (Lib.hid trivial : Hid True).out (fun hHeld => ?_)
              try simp only [Act.put, List.setIfInBounds_toArray, List.set_cons_zero, List.set_cons_succ]
              clear hK K
              clear hHeld
              refine wpAnyH_ready (rs := [11]) (by kernel_rfl) (by simp) ?_
              refine AllReadyH.cons rfl (fun K hK => ?_) AllReadyH.nil
              rw [if_pos (by rfl)]
              refine dg_op (.tmp 5) (.tmp 30) rfl ga2 _ _ z5_b.out (by simp) hlb rfl rfl ?_
              rintro U6 hd6 hc6
              have B6 := Lib.hid (Chg.below B5.out B5.out.size ge2 hc6)
              have z6_a := Lib.hid (Dg.other hd5.out hc6 ne3_b.symm)
              refine hK.out _ _ (Lib.hid trivial : Hid True).out (fun hHeld => ?_)
              try simp only [Act.put, List.setIfInBounds_toArray, List.set_cons_zero, List.set_cons_succ]
              clear hK K
              clear hHeld
              refine wpAnyH_done (by kernel_rfl) ?_ _
              go_wp2_with fail
              go_meet
              case rel => exact ⟨ga3, ga2, rfl, rfl, z6_a, hd6, B6⟩
        · rw [if_pos (by rfl)]
          refine al_op rfl rfl ?_
          rintro U1 ga1 hba1 hga1 hz1
          have ge1 := Nat.le_trans B0.out.size hga1
          have B1 := Lib.hid (B0.out.trans (hba1.mono B0.out.size))
          refine hK.out _ _ (Lib.hid trivial : Hid True).out (fun hHeld => ?_)
          try simp only [Act.put, List.setIfInBounds_toArray, List.set_cons_zero, List.set_cons_succ]
          clear hK K
          clear hHeld
          refine wpAnyH_ready (rs := [3, 9]) (by kernel_rfl) (by simp) ?_
          refine AllReadyH.cons rfl (fun K hK => ?_) (AllReadyH.cons rfl (fun K hK => ?_) AllReadyH.nil)
          · rw [if_pos (by rfl)]
            go_simp
            go_at_call 14
            refine (CA.out _ B1.out).mono ?_
            rintro e U2 ⟨rfl, hba2⟩
            have B2 := Lib.hid (B1.out.trans (hba2.mono B1.out.size))
            have z2_a := Lib.hid (hz1.out.below hba2)
            refine hK.out _ _ (Lib.hid trivial : Hid True).out (fun hHeld => ?_)
            try simp only [Act.put, List.setIfInBounds_toArray, List.set_cons_zero, List.set_cons_succ]
            clear hK K
            clear hHeld
            refine wpAnyH_ready (rs := [7, 9]) (by kernel_rfl) (by simp) ?_
            refine AllReadyH.cons rfl (fun K hK => ?_) (AllReadyH.cons rfl (fun K hK => ?_) AllReadyH.nil)
            · rw [if_pos (by rfl)]
              go_simp
              go_at_call 14
              refine (CB.out _ B2.out).mono ?_
              rintro e U3 ⟨rfl, hba3⟩
              have B3 := Lib.hid (B2.out.trans (hba3.mono B2.out.size))
              have z3_a := Lib.hid (z2_a.out.below hba3)
              refine hK.out _ _ (Lib.hid trivial : Hid True).out (fun hHeld => ?_)
              try simp only [Act.put, List.setIfInBounds_toArray, List.set_cons_zero, List.set_cons_succ]
              clear hK K
              clear hHeld
              refine wpAnyH_ready (rs := [9]) (by kernel_rfl) (by simp) ?_
              refine AllReadyH.cons rfl (fun K hK => ?_) AllReadyH.nil
              rw [if_pos (by rfl)]
              refine al_op rfl rfl ?_
              rintro U4 ga4 hba4 hga4 hz4
              have ne4_a : ga1 ≠ ga4 := by have := z3_a.out.lt; omega
              have ge4 := Nat.le_trans B3.out.size hga4
              have B4 := Lib.hid (B3.out.trans (hba4.mono B3.out.size))
              have z4_a := Lib.hid (z3_a.out.below hba4)
              refine hK.out _ _ (Lib.hid trivial : Hid True).out (fun hHeld => ?_)
              try simp only [Act.put, List.setIfInBounds_toArray, List.set_cons_zero, List.set_cons_succ]
              clear hK K
              clear hHeld
              refine wpAnyH_ready (rs := [10]) (by kernel_rfl) (by simp) ?_
              refine AllReadyH.cons rfl (fun K hK => ?_) AllReadyH.nil
              rw [if_pos (by rfl)]
              refine dg_op (.tmp 4) (.tmp 26) rfl ga1 _ _ z4_a.out (by simp) hla rfl rfl ?_
              rintro U5 hd5 hc5
              have B5 := Lib.hid (Chg.below B4.out B4.out.size ge1 hc5)
              have z5_b := Lib.hid (Dg.other hz4.out hc5 ne4_a.symm)
              refine hK.out _ _ (Lib.hid trivial : Hid True).out (fun hHeld => ?_)
              try simp only [Act.put, List.setIfInBounds_toArray, List.set_cons_zero, List.set_cons_succ]
              clear hK K
              clear hHeld
              refine wpAnyH_ready (rs := [11]) (by kernel_rfl) (by simp) ?_
              refine AllReadyH.cons rfl (fun K hK => ?_) AllReadyH.nil
              rw [if_pos (by rfl)]
              refine dg_op (.tmp 5) (.tmp 30) rfl ga4 _ _ z5_b.out (by simp) hlb rfl rfl ?_
              rintro U6 hd6 hc6
              have B6 := Lib.hid (Chg.below B5.out B5.out.size ge4 hc6)
              have z6_a := Lib.hid (Dg.other hd5.out hc6 ne4_a)
              refine hK.out _ _ (Lib.hid trivial : Hid True).out (fun hHeld => ?_)
              try simp only [Act.put, List.setIfInBounds_toArray, List.set_cons_zero, List.set_cons_succ]
              clear hK K
              clear hHeld
              refine wpAnyH_done (by kernel_rfl) ?_ _
              go_wp2_with fail
              go_meet
              case rel => exact ⟨ga1, ga4, rfl, rfl, z6_a, hd6, B6⟩
            · rw [if_pos (by rfl)]
              refine al_op rfl rfl ?_
              rintro U3 ga3 hba3 hga3 hz3
              have ne3_a : ga1 ≠ ga3 := by have := z2_a.out.lt; omega
              have ge3 := Nat.le_trans B2.out.size hga3
              have B3 := Lib.hid (B2.out.trans (hba3.mono B2.out.size))
              have z3_a := Lib.hid (z2_a.out.below hba3)
              refine hK.out _ _ (Lib.hid trivial : Hid True).out (fun hHeld => ?_)
              try simp only [Act.put, List.setIfInBounds_toArray, List.set_cons_zero, List.set_cons_succ]
              clear hK K
              clear hHeld
              refine wpAnyH_ready (rs := [7]) (by kernel_rfl) (by simp) ?_
              refine AllReadyH.cons rfl (fun K hK => ?_) AllReadyH.nil
              rw [if_pos (by rfl)]
              go_simp
              go_at_call 14
              refine (CB.out _ B3.out).mono ?_
              rintro e U4 ⟨rfl, hba4⟩
              have B4 := Lib.hid (B3.out.trans (hba4.mono B3.out.size))
              have z4_a := Lib.hid (z3_a.out.below hba4)
              have z4_b := Lib.hid (hz3.out.below hba4)
              refine hK.out _ _ (Lib.hid trivial : Hid True).out (fun hHeld => ?_)
              try simp only [Act.put, List.setIfInBounds_toArray, List.set_cons_zero, List.set_cons_succ]
              clear hK K
              clear hHeld
              refine wpAnyH_ready (rs := [10]) (by kernel_rfl) (by simp) ?_
              refine AllReadyH.cons rfl (fun K hK => ?_) AllReadyH.nil
              rw [if_pos (by rfl)]
              refine dg_op (.tmp 4) (.tmp 26) rfl ga1 _ _ z4_a.out (by simp) hla rfl rfl ?_
              rintro U5 hd5 hc5
              have B5 := Lib.hid (Chg.below B4.out B4.out.size ge1 hc5)
              have z5_b := Lib.hid (Dg.other z4_b.out hc5 ne3_a.symm)
              refine hK.out _ _ (Lib.hid trivial : Hid True).out (fun hHeld => ?_)
              try simp only [Act.put, List.setIfInBounds_toArray, List.set_cons_zero, List.set_cons_succ]
              clear hK K
              clear hHeld
              refine wpAnyH_ready (rs := [11]) (by kernel_rfl) (by simp) ?_
              refine AllReadyH.cons rfl (fun K hK => ?_) AllReadyH.nil
              rw [if_pos (by rfl)]
              refine dg_op (.tmp 5) (.tmp 30) rfl ga3 _ _ z5_b.out (by simp) hlb rfl rfl ?_
              rintro U6 hd6 hc6
              have B6 := Lib.hid (Chg.below B5.out B5.out.size ge3 hc6)
              have z6_a := Lib.hid (Dg.other hd5.out hc6 ne3_a)
              refine hK.out _ _ (Lib.hid trivial : Hid True).out (fun hHeld => ?_)
              try simp only [Act.put, List.setIfInBounds_toArray, List.set_cons_zero, List.set_cons_succ]
              clear hK K
              clear hHeld
              refine wpAnyH_done (by kernel_rfl) ?_ _
              go_wp2_with fail
              go_meet
              case rel => exact ⟨ga1, ga3, rfl, rfl, z6_a, hd6, B6⟩
          · rw [if_pos (by rfl)]
            refine al_op rfl rfl ?_
            rintro U2 ga2 hba2 hga2 hz2
            have ne2_a : ga1 ≠ ga2 := by have := hz1.out.lt; omega
            have ge2 := Nat.le_trans B1.out.size hga2
            have B2 := Lib.hid (B1.out.trans (hba2.mono B1.out.size))
            have z2_a := Lib.hid (hz1.out.below hba2)
            refine hK.out _ _ (Lib.hid trivial : Hid True).out (fun hHeld => ?_)
            try simp only [Act.put, List.setIfInBounds_toArray, List.set_cons_zero, List.set_cons_succ]
            clear hK K
            clear hHeld
            refine wpAnyH_ready (rs := [3]) (by kernel_rfl) (by simp) ?_
            refine AllReadyH.cons rfl (fun K hK => ?_) AllReadyH.nil
            rw [if_pos (by rfl)]
            go_simp
            go_at_call 14
            refine (CA.out _ B2.out).mono ?_
            rintro e U3 ⟨rfl, hba3⟩
            have B3 := Lib.hid (B2.out.trans (hba3.mono B2.out.size))
            have z3_a := Lib.hid (z2_a.out.below hba3)
            have z3_b := Lib.hid (hz2.out.below hba3)
            refine hK.out _ _ (Lib.hid trivial : Hid True).out (fun hHeld => ?_)
            try simp only [Act.put, List.setIfInBounds_toArray, List.set_cons_zero, List.set_cons_succ]
            clear hK K
            clear hHeld
            refine wpAnyH_ready (rs := [7]) (by kernel_rfl) (by simp) ?_
            refine AllReadyH.cons rfl (fun K hK => ?_) AllReadyH.nil
            rw [if_pos (by rfl)]
            go_simp
            go_at_call 14
            refine (CB.out _ B3.out).mono ?_
            rintro e U4 ⟨rfl, hba4⟩
            have B4 := Lib.hid (B3.out.trans (hba4.mono B3.out.size))
            have z4_a := Lib.hid (z3_a.out.below hba4)
            have z4_b := Lib.hid (z3_b.out.below hba4)
            refine hK.out _ _ (Lib.hid trivial : Hid True).out (fun hHeld => ?_)
            try simp only [Act.put, List.setIfInBounds_toArray, List.set_cons_zero, List.set_cons_succ]
            clear hK K
            clear hHeld
            refine wpAnyH_ready (rs := [10]) (by kernel_rfl) (by simp) ?_
            refine AllReadyH.cons rfl (fun K hK => ?_) AllReadyH.nil
            rw [if_pos (by rfl)]
            refine dg_op (.tmp 4) (.tmp 26) rfl ga1 _ _ z4_a.out (by simp) hla rfl rfl ?_
            rintro U5 hd5 hc5
            have B5 := Lib.hid (Chg.below B4.out B4.out.size ge1 hc5)
            have z5_b := Lib.hid (Dg.other z4_b.out hc5 ne2_a.symm)
            refine hK.out _ _ (Lib.hid trivial : Hid True).out (fun hHeld => ?_)
            try simp only [Act.put, List.setIfInBounds_toArray, List.set_cons_zero, List.set_cons_succ]
            clear hK K
            clear hHeld
            refine wpAnyH_ready (rs := [11]) (by kernel_rfl) (by simp) ?_
            refine AllReadyH.cons rfl (fun K hK => ?_) AllReadyH.nil
            rw [if_pos (by rfl)]
            refine dg_op (.tmp 5) (.tmp 30) rfl ga2 _ _ z5_b.out (by simp) hlb rfl rfl ?_
            rintro U6 hd6 hc6
            have B6 := Lib.hid (Chg.below B5.out B5.out.size ge2 hc6)
            have z6_a := Lib.hid (Dg.other hd5.out hc6 ne2_a)
            refine hK.out _ _ (Lib.hid trivial : Hid True).out (fun hHeld => ?_)
            try simp only [Act.put, List.setIfInBounds_toArray, List.set_cons_zero, List.set_cons_succ]
            clear hK K
            clear hHeld
            refine wpAnyH_done (by kernel_rfl) ?_ _
            go_wp2_with fail
            go_meet
            case rel => exact ⟨ga1, ga2, rfl, rfl, z6_a, hd6, B6⟩
        · rw [if_pos (by rfl)]
          refine al_op rfl rfl ?_
          rintro U1 ga1 hba1 hga1 hz1
          have ge1 := Nat.le_trans B0.out.size hga1
          have B1 := Lib.hid (B0.out.trans (hba1.mono B0.out.size))
          refine hK.out _ _ (Lib.hid trivial : Hid True).out (fun hHeld => ?_)
          try simp only [Act.put, List.setIfInBounds_toArray, List.set_cons_zero, List.set_cons_succ]
          clear hK K
          clear hHeld
          refine wpAnyH_ready (rs := [3, 8]) (by kernel_rfl) (by simp) ?_
          refine AllReadyH.cons rfl (fun K hK => ?_) (AllReadyH.cons rfl (fun K hK => ?_) AllReadyH.nil)
          · rw [if_pos (by rfl)]
            go_simp
            go_at_call 14
            refine (CA.out _ B1.out).mono ?_
            rintro e U2 ⟨rfl, hba2⟩
            have B2 := Lib.hid (B1.out.trans (hba2.mono B1.out.size))
            have z2_b := Lib.hid (hz1.out.below hba2)
            refine hK.out _ _ (Lib.hid trivial : Hid True).out (fun hHeld => ?_)
            try simp only [Act.put, List.setIfInBounds_toArray, List.set_cons_zero, List.set_cons_succ]
            clear hK K
            clear hHeld
            refine wpAnyH_ready (rs := [7, 8]) (by kernel_rfl) (by simp) ?_
            refine AllReadyH.cons rfl (fun K hK => ?_) (AllReadyH.cons rfl (fun K hK => ?_) AllReadyH.nil)
            · rw [if_pos (by rfl)]
              go_simp
              go_at_call 14
              refine (CB.out _ B2.out).mono ?_
              rintro e U3 ⟨rfl, hba3⟩
              have B3 := Lib.hid (B2.out.trans (hba3.mono B2.out.size))
              have z3_b := Lib.hid (z2_b.out.below hba3)
              refine hK.out _ _ (Lib.hid trivial : Hid True).out (fun hHeld => ?_)
              try simp only [Act.put, List.setIfInBounds_toArray, List.set_cons_zero, List.set_cons_succ]
              clear hK K
              clear hHeld
              refine wpAnyH_ready (rs := [8]) (by kernel_rfl) (by simp) ?_
              refine AllReadyH.cons rfl (fun K hK => ?_) AllReadyH.nil
              rw [if_pos (by rfl)]
              refine al_op rfl rfl ?_
              rintro U4 ga4 hba4 hga4 hz4
              have ne4_b : ga1 ≠ ga4 := by have := z3_b.out.lt; omega
              have ge4 := Nat.le_trans B3.out.size hga4
              have B4 := Lib.hid (B3.out.trans (hba4.mono B3.out.size))
              have z4_b := Lib.hid (z3_b.out.below hba4)
              refine hK.out _ _ (Lib.hid trivial : Hid True).out (fun hHeld => ?_)
              try simp only [Act.put, List.setIfInBounds_toArray, List.set_cons_zero, List.set_cons_succ]
              clear hK K
              clear hHeld
              refine wpAnyH_ready (rs := [10]) (by kernel_rfl) (by simp) ?_
              refine AllReadyH.cons rfl (fun K hK => ?_) AllReadyH.nil
              rw [if_pos (by rfl)]
              refine dg_op (.tmp 4) (.tmp 26) rfl ga4 _ _ hz4.out (by simp) hla rfl rfl ?_
              rintro U5 hd5 hc5
              have B5 := Lib.hid (Chg.below B4.out B4.out.size ge4 hc5)
              have z5_b := Lib.hid (Dg.other z4_b.out hc5 ne4_b)
              refine hK.out _ _ (Lib.hid trivial : Hid True).out (fun hHeld => ?_)
              try simp only [Act.put, List.setIfInBounds_toArray, List.set_cons_zero, List.set_cons_succ]
              clear hK K
              clear hHeld
              refine wpAnyH_ready (rs := [11]) (by kernel_rfl) (by simp) ?_
              refine AllReadyH.cons rfl (fun K hK => ?_) AllReadyH.nil
              rw [if_pos (by rfl)]
              refine dg_op (.tmp 5) (.tmp 30) rfl ga1 _ _ z5_b.out (by simp) hlb rfl rfl ?_
              rintro U6 hd6 hc6
              have B6 := Lib.hid (Chg.below B5.out B5.out.size ge1 hc6)
              have z6_a := Lib.hid (Dg.other hd5.out hc6 ne4_b.symm)
              refine hK.out _ _ (Lib.hid trivial : Hid True).out (fun hHeld => ?_)
              try simp only [Act.put, List.setIfInBounds_toArray, List.set_cons_zero, List.set_cons_succ]
              clear hK K
              clear hHeld
              refine wpAnyH_done (by kernel_rfl) ?_ _
              go_wp2_with fail
              go_meet
              case rel => exact ⟨ga4, ga1, rfl, rfl, z6_a, hd6, B6⟩
            · rw [if_pos (by rfl)]
              refine al_op rfl rfl ?_
              rintro U3 ga3 hba3 hga3 hz3
              have ne3_b : ga1 ≠ ga3 := by have := z2_b.out.lt; omega
              have ge3 := Nat.le_trans B2.out.size hga3
              have B3 := Lib.hid (B2.out.trans (hba3.mono B2.out.size))
              have z3_b := Lib.hid (z2_b.out.below hba3)
              refine hK.out _ _ (Lib.hid trivial : Hid True).out (fun hHeld => ?_)
              try simp only [Act.put, List.setIfInBounds_toArray, List.set_cons_zero, List.set_cons_succ]
              clear hK K
              clear hHeld
              refine wpAnyH_ready (rs := [7]) (by kernel_rfl) (by simp) ?_
              refine AllReadyH.cons rfl (fun K hK => ?_) AllReadyH.nil
              rw [if_pos (by rfl)]
              go_simp
              go_at_call 14
              refine (CB.out _ B3.out).mono ?_
              rintro e U4 ⟨rfl, hba4⟩
              have B4 := Lib.hid (B3.out.trans (hba4.mono B3.out.size))
              have z4_b := Lib.hid (z3_b.out.below hba4)
              have z4_a := Lib.hid (hz3.out.below hba4)
              refine hK.out _ _ (Lib.hid trivial : Hid True).out (fun hHeld => ?_)
              try simp only [Act.put, List.setIfInBounds_toArray, List.set_cons_zero, List.set_cons_succ]
              clear hK K
              clear hHeld
              refine wpAnyH_ready (rs := [10]) (by kernel_rfl) (by simp) ?_
              refine AllReadyH.cons rfl (fun K hK => ?_) AllReadyH.nil
              rw [if_pos (by rfl)]
              refine dg_op (.tmp 4) (.tmp 26) rfl ga3 _ _ z4_a.out (by simp) hla rfl rfl ?_
              rintro U5 hd5 hc5
              have B5 := Lib.hid (Chg.below B4.out B4.out.size ge3 hc5)
              have z5_b := Lib.hid (Dg.other z4_b.out hc5 ne3_b)
              refine hK.out _ _ (Lib.hid trivial : Hid True).out (fun hHeld => ?_)
              try simp only [Act.put, List.setIfInBounds_toArray, List.set_cons_zero, List.set_cons_succ]
              clear hK K
              clear hHeld
              refine wpAnyH_ready (rs := [11]) (by kernel_rfl) (by simp) ?_
              refine AllReadyH.cons rfl (fun K hK => ?_) AllReadyH.nil
              rw [if_pos (by rfl)]
              refine dg_op (.tmp 5) (.tmp 30) rfl ga1 _ _ z5_b.out (by simp) hlb rfl rfl ?_
              rintro U6 hd6 hc6
              have B6 := Lib.hid (Chg.below B5.out B5.out.size ge1 hc6)
              have z6_a := Lib.hid (Dg.other hd5.out hc6 ne3_b.symm)
              refine hK.out _ _ (Lib.hid trivial : Hid True).out (fun hHeld => ?_)
              try simp only [Act.put, List.setIfInBounds_toArray, List.set_cons_zero, List.set_cons_succ]
              clear hK K
              clear hHeld
              refine wpAnyH_done (by kernel_rfl) ?_ _
              go_wp2_with fail
              go_meet
              case rel => exact ⟨ga3, ga1, rfl, rfl, z6_a, hd6, B6⟩
          · rw [if_pos (by rfl)]
            refine al_op rfl rfl ?_
            rintro U2 ga2 hba2 hga2 hz2
            have ne2_b : ga1 ≠ ga2 := by have := hz1.out.lt; omega
            have ge2 := Nat.le_trans B1.out.size hga2
            have B2 := Lib.hid (B1.out.trans (hba2.mono B1.out.size))
            have z2_b := Lib.hid (hz1.out.below hba2)
            refine hK.out _ _ (Lib.hid trivial : Hid True).out (fun hHeld => ?_)
            try simp only [Act.put, List.setIfInBounds_toArray, List.set_cons_zero, List.set_cons_succ]
            clear hK K
            clear hHeld
            refine wpAnyH_ready (rs := [3]) (by kernel_rfl) (by simp) ?_
            refine AllReadyH.cons rfl (fun K hK => ?_) AllReadyH.nil
            rw [if_pos (by rfl)]
            go_simp
            go_at_call 14
            refine (CA.out _ B2.out).mono ?_
            rintro e U3 ⟨rfl, hba3⟩
            have B3 := Lib.hid (B2.out.trans (hba3.mono B2.out.size))
            have z3_b := Lib.hid (z2_b.out.below hba3)
            have z3_a := Lib.hid (hz2.out.below hba3)
            refine hK.out _ _ (Lib.hid trivial : Hid True).out (fun hHeld => ?_)
            try simp only [Act.put, List.setIfInBounds_toArray, List.set_cons_zero, List.set_cons_succ]
            clear hK K
            clear hHeld
            refine wpAnyH_ready (rs := [7]) (by kernel_rfl) (by simp) ?_
            refine AllReadyH.cons rfl (fun K hK => ?_) AllReadyH.nil
            rw [if_pos (by rfl)]
            go_simp
            go_at_call 14
            refine (CB.out _ B3.out).mono ?_
            rintro e U4 ⟨rfl, hba4⟩
            have B4 := Lib.hid (B3.out.trans (hba4.mono B3.out.size))
            have z4_b := Lib.hid (z3_b.out.below hba4)
            have z4_a := Lib.hid (z3_a.out.below hba4)
            refine hK.out _ _ (Lib.hid trivial : Hid True).out (fun hHeld => ?_)
            try simp only [Act.put, List.setIfInBounds_toArray, List.set_cons_zero, List.set_cons_succ]
            clear hK K
            clear hHeld
            refine wpAnyH_ready (rs := [10]) (by kernel_rfl) (by simp) ?_
            refine AllReadyH.cons rfl (fun K hK => ?_) AllReadyH.nil
            rw [if_pos (by rfl)]
            refine dg_op (.tmp 4) (.tmp 26) rfl ga2 _ _ z4_a.out (by simp) hla rfl rfl ?_
            rintro U5 hd5 hc5
            have B5 := Lib.hid (Chg.below B4.out B4.out.size ge2 hc5)
            have z5_b := Lib.hid (Dg.other z4_b.out hc5 ne2_b)
            refine hK.out _ _ (Lib.hid trivial : Hid True).out (fun hHeld => ?_)
            try simp only [Act.put, List.setIfInBounds_toArray, List.set_cons_zero, List.set_cons_succ]
            clear hK K
            clear hHeld
            refine wpAnyH_ready (rs := [11]) (by kernel_rfl) (by simp) ?_
            refine AllReadyH.cons rfl (fun K hK => ?_) AllReadyH.nil
            rw [if_pos (by rfl)]
            refine dg_op (.tmp 5) (.tmp 30) rfl ga1 _ _ z5_b.out (by simp) hlb rfl rfl ?_
            rintro U6 hd6 hc6
            have B6 := Lib.hid (Chg.below B5.out B5.out.size ge1 hc6)
            have z6_a := Lib.hid (Dg.other hd5.out hc6 ne2_b.symm)
            refine hK.out _ _ (Lib.hid trivial : Hid True).out (fun hHeld => ?_)
            try simp only [Act.put, List.setIfInBounds_toArray, List.set_cons_zero, List.set_cons_succ]
            clear hK K
            clear hHeld
            refine wpAnyH_done (by kernel_rfl) ?_ _
            go_wp2_with fail
            go_meet
            case rel => exact ⟨ga2, ga1, rfl, rfl, z6_a, hd6, B6⟩
      case rest =>
        obtain ⟨ga, gb, rfl, rfl, HA, HB, HBc⟩ := hcut
        have hTG := Lib.hid fun (U : World) (v : Value) (hb : Below wc.heap.size wc U) (ho : Own U v ((RA ++ RB).map byt)) => tagged_any sNode v (RA ++ RB) U (by decide) (own_bv ho) (by rw [List.length_append, hla, hlb]; omega) (HK.out.below (HB1.out.trans ((HBc.out.trans (hb.mono HBc.out.size)).mono HB1.out.size)))
        unfold TagR at hTG
        rw [← HSP.out] at hTG
        have CL2 := Lib.hid (fun (U : World) (hb : Below wc.heap.size wc U) => CL.out U (HBc.out.trans (hb.mono HBc.out.size)))
        have heq : ∀ w, (Op.equalIn 10000 30 (dgv RL) (dgv RL)).run Tryd.prog w = .ok true w := fun w => by rw [dg_equal _ _ hlR hlR, beq_self_eq_true]
        clear HSP CL CA CB
        go_upto_region 9 with fail
        refine wp_only ?_
        have B0 : Hid (Below wc.heap.size wc wc.drew) := Lib.hid (below_drew (Below.refl _ _))
        refine wp_region_held_drew (S := fun _ => True) (by kernel_rfl) trivial (fun hHeld => ?_)
        refine take_at (i := 0) (k := 31) (v := .slice (some ⟨b, o, none⟩) n c) rfl rfl (by kernel_rfl) (by kernel_rfl) (by kernel_rfl) (fun _ _ _ h => h) (Or.inl ⟨by rfl, fun w _ => by go_simp⟩) hHeld ?_
        try simp only [Act.put, List.setIfInBounds_toArray, List.set_cons_zero, List.set_cons_succ]
        refine take_at (i := 3) (k := 34) (v := .slice (some ⟨ga, 0, none⟩) 32 32) rfl rfl (by kernel_rfl) (by kernel_rfl) (by kernel_rfl) (fun _ _ _ h => h) (Or.inl ⟨by rfl, fun w _ => by go_simp⟩) hHeld ?_
        try simp only [Act.put, List.setIfInBounds_toArray, List.set_cons_zero, List.set_cons_succ]
        refine take_at (i := 5) (k := 36) (v := .slice (some ⟨gb, 0, none⟩) 32 32) rfl rfl (by kernel_rfl) (by kernel_rfl) (by kernel_rfl) (fun _ _ _ h => h) (Or.inl ⟨by rfl, fun w _ => by go_simp⟩) hHeld ?_
        try simp only [Act.put, List.setIfInBounds_toArray, List.set_cons_zero, List.set_cons_succ]
        clear hHeld
        refine wpAnyH_ready (rs := [1, 2]) (by kernel_rfl) (by simp) ?_
        refine AllReadyH.cons rfl (fun K hK => ?_) (AllReadyH.cons rfl (fun K hK => ?_) AllReadyH.nil)
        · rw [if_pos (by rfl)]
          go_simp
          go_at_call 14
          refine (CL2.out _ B0.out).mono ?_
          rintro e U1 ⟨rfl, hba1⟩
          have B1 := Lib.hid (B0.out.trans (hba1.mono B0.out.size))
          refine hK.out _ _ (Lib.hid trivial : Hid True).out (fun hHeld => ?_)
          try simp only [Act.put, List.setIfInBounds_toArray, List.set_cons_zero, List.set_cons_succ]
          clear hK K
          clear hHeld
          refine wpAnyH_ready (rs := [2]) (by kernel_rfl) (by simp) ?_
          refine AllReadyH.cons rfl (fun K hK => ?_) AllReadyH.nil
          rw [if_pos (by rfl)]
          refine bs0_op rfl rfl ?_
          rintro U2 gv2 ho2 hba2 hgv2
          have nw2 : ∀ k, (Value.slice (some ⟨gv2, 0, none⟩) 0 0).ownBlock = some k → wc.heap.size ≤ k := fun k e => by cases e; exact Nat.le_trans B1.out.size hgv2
          have B2 := Lib.hid (B1.out.trans (hba2.mono B1.out.size))
          refine hK.out _ _ (Lib.hid trivial : Hid True).out (fun hHeld => ?_)
          try simp only [Act.put, List.setIfInBounds_toArray, List.set_cons_zero, List.set_cons_succ]
          clear hK K
          clear hHeld
          refine wpAnyH_ready (rs := [4]) (by kernel_rfl) (by simp) ?_
          refine AllReadyH.cons rfl (fun K hK => ?_) AllReadyH.nil
          rw [if_pos (by rfl)]
          refine bytes_op (.tmp 33) (.tmp 34) rfl (.slice (some ⟨gv2, 0, none⟩) 0 0) (.slice (some ⟨ga, 0, none⟩) 32 32) [] RA rfl ho2.out rfl (dg_bv (HA.out.below B2.out) hla) (by rw [hla]; simp) ?_
          rintro v3 U3 ho3 hg3 hv3
          have nw3 : ∀ k, Value.ownBlock v3 = some k → wc.heap.size ≤ k := fun k e => by
            rcases hv3 with h | ⟨k', h, h'⟩
            · exact nw2 k (h ▸ e)
            · rw [h] at e; cases e; exact Nat.le_trans B2.out.size h'
          have B3 := Lib.hid (grown_below B2.out B2.out.size hg3 nw2)
          refine hK.out _ _ (Lib.hid trivial : Hid True).out (fun hHeld => ?_)
          try simp only [Act.put, List.setIfInBounds_toArray, List.set_cons_zero, List.set_cons_succ]
          clear hK K
          clear hHeld
          refine wpAnyH_ready (rs := [6]) (by kernel_rfl) (by simp) ?_
          refine AllReadyH.cons rfl (fun K hK => ?_) AllReadyH.nil
          rw [if_pos (by rfl)]
          refine bytes_op (.tmp 35) (.tmp 36) rfl v3 (.slice (some ⟨gb, 0, none⟩) 32 32) RA RB rfl ho3.out rfl (dg_bv (HB.out.below B3.out) hlb) (by rw [hla, hlb]; omega) ?_
          rintro v4 U4 ho4 hg4 hv4
          have nw4 : ∀ k, Value.ownBlock v4 = some k → wc.heap.size ≤ k := fun k e => by
            rcases hv4 with h | ⟨k', h, h'⟩
            · exact nw3 k (h ▸ e)
            · rw [h] at e; cases e; exact Nat.le_trans B3.out.size h'
          have B4 := Lib.hid (grown_below B3.out B3.out.size hg4 nw3)
          refine hK.out _ _ (Lib.hid trivial : Hid True).out (fun hHeld => ?_)
          try simp only [Act.put, List.setIfInBounds_toArray, List.set_cons_zero, List.set_cons_succ]
          clear hK K
          clear hHeld
          refine wpAnyH_ready (rs := [7]) (by kernel_rfl) (by simp) ?_
          refine AllReadyH.cons rfl (fun K hK => ?_) AllReadyH.nil
          rw [if_pos (by rfl)]
          go_simp
          go_at_call 22
          refine (hTG.out _ _ B4.out ho4.out).mono ?_
          rintro e U5 ⟨rfl, hba5⟩
          have B5 := Lib.hid (B4.out.trans (hba5.mono B4.out.size))
          have o5 := Lib.hid (own_below ho4.out hba5)
          refine hK.out _ _ (Lib.hid trivial : Hid True).out (fun hHeld => ?_)
          try simp only [Act.put, List.setIfInBounds_toArray, List.set_cons_zero, List.set_cons_succ]
          clear hK K
          refine take_at (i := 8) (k := 39) (v := .bool true) rfl rfl (by kernel_rfl) (by kernel_rfl) (by kernel_rfl) (fun _ _ _ h => h) (Or.inl ⟨by rfl, fun w _ => by go_simp⟩) hHeld ?_
          try simp only [Act.put, List.setIfInBounds_toArray, List.set_cons_zero, List.set_cons_succ]
          refine take_at (i := 9) (k := 2) (v := .bool true) rfl rfl (by kernel_rfl) (by kernel_rfl) (by kernel_rfl) (fun _ _ _ h => h) (Or.inl ⟨by rfl, fun w _ => by go_simp⟩) hHeld ?_
          try simp only [Act.put, List.setIfInBounds_toArray, List.set_cons_zero, List.set_cons_succ]
          clear hHeld
          refine wpAnyH_done (by kernel_rfl) ?_ _
          go_wp2_with fail
          go_ret
          exact ⟨rfl, HB1.out.trans ((HBc.out.trans (B5.out.mono HBc.out.size)).mono HB1.out.size)⟩
        · rw [if_pos (by rfl)]
          refine bs0_op rfl rfl ?_
          rintro U1 gv1 ho1 hba1 hgv1
          have nw1 : ∀ k, (Value.slice (some ⟨gv1, 0, none⟩) 0 0).ownBlock = some k → wc.heap.size ≤ k := fun k e => by cases e; exact Nat.le_trans B0.out.size hgv1
          have B1 := Lib.hid (B0.out.trans (hba1.mono B0.out.size))
          refine hK.out _ _ (Lib.hid trivial : Hid True).out (fun hHeld => ?_)
          try simp only [Act.put, List.setIfInBounds_toArray, List.set_cons_zero, List.set_cons_succ]
          clear hK K
          clear hHeld
          refine wpAnyH_ready (rs := [1]) (by kernel_rfl) (by simp) ?_
          refine AllReadyH.cons rfl (fun K hK => ?_) AllReadyH.nil
          rw [if_pos (by rfl)]
          go_simp
          go_at_call 14
          refine (CL2.out _ B1.out).mono ?_
          rintro e U2 ⟨rfl, hba2⟩
          have B2 := Lib.hid (B1.out.trans (hba2.mono B1.out.size))
          have o2 := Lib.hid (own_below ho1.out hba2)
          refine hK.out _ _ (Lib.hid trivial : Hid True).out (fun hHeld => ?_)
          try simp only [Act.put, List.setIfInBounds_toArray, List.set_cons_zero, List.set_cons_succ]
          clear hK K
          clear hHeld
          refine wpAnyH_ready (rs := [4]) (by kernel_rfl) (by simp) ?_
          refine AllReadyH.cons rfl (fun K hK => ?_) AllReadyH.nil
          rw [if_pos (by rfl)]
          refine bytes_op (.tmp 33) (.tmp 34) rfl (.slice (some ⟨gv1, 0, none⟩) 0 0) (.slice (some ⟨ga, 0, none⟩) 32 32) [] RA rfl o2.out rfl (dg_bv (HA.out.below B2.out) hla) (by rw [hla]; simp) ?_
          rintro v3 U3 ho3 hg3 hv3
          have nw3 : ∀ k, Value.ownBlock v3 = some k → wc.heap.size ≤ k := fun k e => by
            rcases hv3 with h | ⟨k', h, h'⟩
            · exact nw1 k (h ▸ e)
            · rw [h] at e; cases e; exact Nat.le_trans B2.out.size h'
          have B3 := Lib.hid (grown_below B2.out B2.out.size hg3 nw1)
          refine hK.out _ _ (Lib.hid trivial : Hid True).out (fun hHeld => ?_)
          try simp only [Act.put, List.setIfInBounds_toArray, List.set_cons_zero, List.set_cons_succ]
          clear hK K
          clear hHeld
          refine wpAnyH_ready (rs := [6]) (by kernel_rfl) (by simp) ?_
          refine AllReadyH.cons rfl (fun K hK => ?_) AllReadyH.nil
          rw [if_pos (by rfl)]
          refine bytes_op (.tmp 35) (.tmp 36) rfl v3 (.slice (some ⟨gb, 0, none⟩) 32 32) RA RB rfl ho3.out rfl (dg_bv (HB.out.below B3.out) hlb) (by rw [hla, hlb]; omega) ?_
          rintro v4 U4 ho4 hg4 hv4
          have nw4 : ∀ k, Value.ownBlock v4 = some k → wc.heap.size ≤ k := fun k e => by
            rcases hv4 with h | ⟨k', h, h'⟩
            · exact nw3 k (h ▸ e)
            · rw [h] at e; cases e; exact Nat.le_trans B3.out.size h'
          have B4 := Lib.hid (grown_below B3.out B3.out.size hg4 nw3)
          refine hK.out _ _ (Lib.hid trivial : Hid True).out (fun hHeld => ?_)
          try simp only [Act.put, List.setIfInBounds_toArray, List.set_cons_zero, List.set_cons_succ]
          clear hK K
          clear hHeld
          refine wpAnyH_ready (rs := [7]) (by kernel_rfl) (by simp) ?_
          refine AllReadyH.cons rfl (fun K hK => ?_) AllReadyH.nil
          rw [if_pos (by rfl)]
          go_simp
          go_at_call 22
          refine (hTG.out _ _ B4.out ho4.out).mono ?_
          rintro e U5 ⟨rfl, hba5⟩
          have B5 := Lib.hid (B4.out.trans (hba5.mono B4.out.size))
          have o5 := Lib.hid (own_below ho4.out hba5)
          refine hK.out _ _ (Lib.hid trivial : Hid True).out (fun hHeld => ?_)
          try simp only [Act.put, List.setIfInBounds_toArray, List.set_cons_zero, List.set_cons_succ]
          clear hK K
          refine take_at (i := 8) (k := 39) (v := .bool true) rfl rfl (by kernel_rfl) (by kernel_rfl) (by kernel_rfl) (fun _ _ _ h => h) (Or.inl ⟨by rfl, fun w _ => by go_simp⟩) hHeld ?_
          try simp only [Act.put, List.setIfInBounds_toArray, List.set_cons_zero, List.set_cons_succ]
          refine take_at (i := 9) (k := 2) (v := .bool true) rfl rfl (by kernel_rfl) (by kernel_rfl) (by kernel_rfl) (fun _ _ _ h => h) (Or.inl ⟨by rfl, fun w _ => by go_simp⟩) hHeld ?_
          try simp only [Act.put, List.setIfInBounds_toArray, List.set_cons_zero, List.set_cons_succ]
          clear hHeld
          refine wpAnyH_done (by kernel_rfl) ?_ _
          go_wp2_with fail
          go_ret
          exact ⟨rfl, HB1.out.trans ((HBc.out.trans (B5.out.mono HBc.out.size)).mono HB1.out.size)⟩
end Go.Proofs.YteeabenmfmeooaaDoor
