/-
  Digest: the law DigestNext.
-/
import Derived.Test.YtekboemijafplaaDoorSteps2
import Derived.BigFrame
import Derived.Deep.CutRange
namespace Go.Proofs.YtekboemijafplaaDoor
open Go Go.RowKit
set_option maxRecDepth 100000 in
set_option maxHeartbeats 60000000 in
theorem next_any (v : Value) (bs : List UInt8) (d : List UInt8) (w : World) (hv : BV w v bs) (hd : d.length = 32) (hk : KOK w) : Calls Tryd.prog 8 #[v, dgv d] w (Ret (.bool true) w) := by
  have HV := Lib.hid hv
  have HK := Lib.hid hk
  have HD32 := Lib.hid hd
  clear hk hv hd
  go_enter Tryd.func8, Tryd.ntmps8
  go_wp2_with fail
  have hd0 := dg_new w d
  have hb0 := one_new w (.cells (d.map byt).toArray 26)
  refine (sane_any _ (HK.out.below hb0)).mono ?_
  rintro e w1 ⟨rfl, hb1⟩
  have HB1 := Lib.hid (hb0.trans (hb1.mono hb0.size))
  have HD1 := Lib.hid (hd0.below hb1)
  clear hb0 hb1 hd0
  generalize w.heap.size = g3 at HD1 ⊢
  go_wp2_with fail
  refine (digestsOf_any v bs w1 (HV.out.below HB1.out)).mono ?_
  rintro e w2 ⟨L, rfl, ho2, hb2, hob2⟩
  have hm : min bs.length 24 ≤ 24 := Nat.min_le_right _ _
  generalize hN : min bs.length 24 = n at *
  have HL := Lib.hid (ownN_ld (l := dof bs n) (by rw [dof_len]; exact ho2) (dof_32 bs n))
  have hLl := dof_len bs n
  have H32 := Lib.hid (dof_32 bs n)
  have HB2 := Lib.hid (HB1.out.trans (hb2.mono HB1.out.size))
  have HD2 := Lib.hid (HD1.out.below hb2)
  clear ho2 hb2 hob2 HB1 HD1
  generalize dof bs n = l at *
  have hform : ∃ p cap, L = .slice p n cap ∧ n ≤ cap ∧ cap ≤ maxLen := by
    obtain ⟨b, cap, p, rfl, h1, h2, h3, h4⟩ := HL.out
    exact ⟨p, cap, by rw [hLl], by omega, h2⟩
  obtain ⟨p, cap, rfl, hcap, hmax⟩ := hform
  unfold maxLen at hmax
  go_wp2_with fail
  go_loopw [6] (fun i wr => ∃ m : Nat, (m = 1 ∨ m = 2 ∨ m = 4 ∨ m = 8 ∨ m = 16 ∨ m = 32) ∧ i = .int .i64 m ∧ Hid (Below w2.heap.size w2 wr)) (fun i _ => 64 - (intOf i).toNat)
  case atStart => exact ⟨1, by omega, rfl, Lib.hid (Below.refl _ _)⟩
  case round =>
    obtain ⟨m, hmm, rfl, hbr⟩ := hrel
    by_cases hle : m ≤ n
    · obtain ⟨b, o, hpe⟩ : ∃ b o, p = some ⟨b, o, none⟩ := by
        obtain ⟨b, cap', p', e, h1, h2, h3, h4⟩ := HL.out
        cases e
        rcases h4 with h4 | ⟨o, e, _⟩
        · have h0 : l.length = 0 := by rw [h4]; rfl
          exact absurd h0 (by omega)
        · exact ⟨b, o, e⟩
      subst hpe
      have HLr := Lib.hid (HL.out.below hbr.out)
      have HDr := Lib.hid (HD2.out.below hbr.out)
      have HKr := Lib.hid (HK.out.below (HB2.out.trans (hbr.out.mono HB2.out.size)))
      have hpre := HLr.out.pre m (by omega)
      have htk : (l.take m).length = m := by rw [List.length_take]; omega
      have D1 : D32 [d] := fun x hx => by simp at hx; rw [hx]; exact HD32.out
      have CA := Lib.hid (fun (U : World) (hb : Below wr.heap.size wr U) => tree_any (l.take m) _ U (by omega) (H32.out.take _) (hpre.below hb) (HKr.out.below hb))
      have CB := Lib.hid (fun (U : World) (g1 : Nat) (hb : Below wr.heap.size wr U) (hld : LD U (.slice (some ⟨g1, 0, none⟩) 1 1) [d]) => tree_any [d] _ U (by simp) D1 hld (HKr.out.below hb))
      have c1 : (m : Int) ≤ (n : Int) := by omega
      have c2 : (m : Int) ≤ (cap : Int) := by omega
      have c3 : m ≤ cap := by omega
      have HTK := Lib.hid htk
      have HD1 := Lib.hid D1
      clear hpre htk D1
      go_upto_region 7 with fail
      go_cut [7, 8] from 16 to 67 (fun s7 s8 wc => ∃ ga gb : Nat, s7 = .pointer (some ⟨ga, 0, none⟩) ∧ s8 = .pointer (some ⟨gb, 0, none⟩) ∧ Hid (Dg wc ga (T (l.take m))) ∧ Hid (Dg wc gb (T [d])) ∧ Hid (Below wr.heap.size wr wc))
      case first =>
        have hR := dg_range HDr.out
        have B2 := Lib.hid (below_drew (Below.refl wr.heap.size wr))
        have hsd : (Tryd.prog.info? 26).map (·.size) = some (d.map byt).length := by rw [size26, List.length_map, HD32.out]
        refine wp_region_held_drew (S := fun w' => w'.rangeAt g3 0 (d.map byt)) (by kernel_rfl) hR (fun hHeld => ?_)
        refine take_at (i := 0) (k := 22) (v := .slice (some ⟨b, o, none⟩) n cap) rfl rfl (by kernel_rfl) (by kernel_rfl) (by kernel_rfl) (fun _ _ _ h => h) (Or.inl ⟨by rfl, fun w _ => rfl⟩) hHeld ?_
        try simp only [Act.put, List.setIfInBounds_toArray, List.set_cons_zero, List.set_cons_succ]
        refine take_at (i := 1) (k := 23) (v := .int .i64 (m : Int)) rfl rfl (by kernel_rfl) (by kernel_rfl) (by kernel_rfl) (fun _ _ _ h => h) (Or.inl ⟨by rfl, fun w _ => rfl⟩) hHeld ?_
        try simp only [Act.put, List.setIfInBounds_toArray, List.set_cons_zero, List.set_cons_succ]
        refine take_at (i := 2) (k := 24) (v := .slice (some ⟨b, o, none⟩) m cap) rfl rfl (by kernel_rfl) (by kernel_rfl) (by kernel_rfl) (fun _ _ _ h => h) (Or.inl ⟨by rfl, fun w _ => by go_simp⟩) hHeld ?_
        try simp only [Act.put, List.setIfInBounds_toArray, List.set_cons_zero, List.set_cons_succ]
        refine take_at (i := 4) (k := 26) (v := dgv d) rfl rfl (by kernel_rfl) (by kernel_rfl) (by kernel_rfl) (fun _ _ _ h => h) (yieldsIf_load_mid (by rfl) 26 (.tmp 3) rfl g3 0 rfl (d.map byt) _ (fun w' h => h) Tryd.underlying26 rfl hsd) hHeld ?_
        try simp only [Act.put, List.setIfInBounds_toArray, List.set_cons_zero, List.set_cons_succ]
        clear hHeld
        refine wpAnyH_ready (rs := [3, 5, 7, 8]) (by kernel_rfl) (by simp) ?_
        refine AllReadyH.cons rfl (fun K hK => ?_) (AllReadyH.cons rfl (fun K hK => ?_) (AllReadyH.cons rfl (fun K hK => ?_) (AllReadyH.cons rfl (fun K hK => ?_) AllReadyH.nil)))
        · rw [if_pos (by rfl)]
          go_simp
          go_at_call 17
          refine (CA.out wr.drew B2.out).mono ?_
          rintro e U3 ⟨rfl, hbe3⟩
          have B3 := Lib.hid (B2.out.trans (hbe3.mono B2.out.size))
          have hz3 := B2.out.size
          have hy3 := hbe3.size
          clear hbe3
          refine hK.out _ _ (range_below hR B3.out) (fun _ => ?_)
          try simp only [Act.put, List.setIfInBounds_toArray, List.set_cons_zero, List.set_cons_succ]
          clear hK K
          refine wpAnyH_ready (rs := [5, 7, 8]) (by kernel_rfl) (by simp) ?_
          refine AllReadyH.cons rfl (fun K hK => ?_) (AllReadyH.cons rfl (fun K hK => ?_) (AllReadyH.cons rfl (fun K hK => ?_) AllReadyH.nil))
          · rw [if_pos (by rfl)]
            refine wp_b1 rfl 26 rfl d rfl HD32.out ?_
            intro U4 g4 hbe4 hge4 hlt4 L4x
            have B4 := Lib.hid (B3.out.trans (hbe4.mono B3.out.size))
            have hz4 := B3.out.size
            have hy4 := hbe4.size
            have L4 := L4x
            clear L4x
            clear hbe4
            refine hK.out _ _ (range_below hR B4.out) (fun _ => ?_)
            try simp only [Act.put, List.setIfInBounds_toArray, List.set_cons_zero, List.set_cons_succ]
            clear hK K
            refine wpAnyH_ready (rs := [6, 7, 8]) (by kernel_rfl) (by simp) ?_
            refine AllReadyH.cons rfl (fun K hK => ?_) (AllReadyH.cons rfl (fun K hK => ?_) (AllReadyH.cons rfl (fun K hK => ?_) AllReadyH.nil))
            · rw [if_pos (by rfl)]
              go_simp
              go_at_call 17
              refine (CB.out U4 g4 B4.out L4.out).mono ?_
              rintro e U5 ⟨rfl, hbe5⟩
              have B5 := Lib.hid (B4.out.trans (hbe5.mono B4.out.size))
              have hz5 := B4.out.size
              have hy5 := hbe5.size
              have L5 := Lib.hid (L4.out.below hbe5)
              clear hbe5
              refine hK.out _ _ (range_below hR B5.out) (fun _ => ?_)
              try simp only [Act.put, List.setIfInBounds_toArray, List.set_cons_zero, List.set_cons_succ]
              clear hK K
              refine wpAnyH_ready (rs := [7, 8]) (by kernel_rfl) (by simp) ?_
              refine AllReadyH.cons rfl (fun K hK => ?_) (AllReadyH.cons rfl (fun K hK => ?_) AllReadyH.nil)
              · rw [if_pos (by rfl)]
                refine wp_al rfl rfl ?_
                intro U6 g6 hbe6 hge6 hlt6 A6
                have B6 := Lib.hid (B5.out.trans (hbe6.mono B5.out.size))
                have hz6 := B5.out.size
                have hy6 := hbe6.size
                have P6 := A6
                clear A6
                clear hbe6
                refine hK.out _ _ (range_below hR B6.out) (fun _ => ?_)
                try simp only [Act.put, List.setIfInBounds_toArray, List.set_cons_zero, List.set_cons_succ]
                clear hK K
                refine wpAnyH_ready (rs := [8]) (by kernel_rfl) (by simp) ?_
                refine AllReadyH.cons rfl (fun K hK => ?_) AllReadyH.nil
                · rw [if_pos (by rfl)]
                  refine wp_al rfl rfl ?_
                  intro U7 g7 hbe7 hge7 hlt7 A7
                  have B7 := Lib.hid (B6.out.trans (hbe7.mono B6.out.size))
                  have hz7 := B6.out.size
                  have hy7 := hbe7.size
                  have P7 := Lib.hid (P6.out.below hbe7)
                  have R7 := A7
                  clear A7
                  clear hbe7
                  refine hK.out _ _ (range_below hR B7.out) (fun _ => ?_)
                  try simp only [Act.put, List.setIfInBounds_toArray, List.set_cons_zero, List.set_cons_succ]
                  clear hK K
                  refine wpAnyH_ready (rs := [9]) (by kernel_rfl) (by simp) ?_
                  refine AllReadyH.cons rfl (fun K hK => ?_) AllReadyH.nil
                  · rw [if_pos (by rfl)]
                    refine wp_st (.tmp 7) (.tmp 25) rfl rfl g6 zeros (T (l.take m)) P7.out (by simp [zeros]) (T_len _) rfl rfl ?_
                    intro U8 P8 hc8
                    have B8 := Lib.hid (Chg.below B7.out B7.out.size (by omega) hc8)
                    have hyy8 := (Array.getElem?_eq_some_iff.1 R7.out).1
                    have R8 := Lib.hid ((hc8.block g7 hyy8 (by omega)).trans R7.out)
                    clear hc8
                    refine hK.out _ _ (range_below hR B8.out) (fun _ => ?_)
                    try simp only [Act.put, List.setIfInBounds_toArray, List.set_cons_zero, List.set_cons_succ]
                    clear hK K
                    refine wpAnyH_ready (rs := [10]) (by kernel_rfl) (by simp) ?_
                    refine AllReadyH.cons rfl (fun K hK => ?_) AllReadyH.nil
                    · rw [if_pos (by rfl)]
                      refine wp_st (.tmp 8) (.tmp 28) rfl rfl g7 zeros (T [d]) R8.out (by simp [zeros]) (T_len _) rfl rfl ?_
                      intro U9 R9 hc9
                      have B9 := Lib.hid (Chg.below B8.out B8.out.size (by omega) hc9)
                      have hyy9 := (Array.getElem?_eq_some_iff.1 P8.out).1
                      have P9 := Lib.hid ((hc9.block g6 hyy9 (by omega)).trans P8.out)
                      clear hc9
                      refine hK.out _ _ (range_below hR B9.out) (fun _ => ?_)
                      try simp only [Act.put, List.setIfInBounds_toArray, List.set_cons_zero, List.set_cons_succ]
                      clear hK K
                      refine wpAnyH_done (by kernel_rfl) ?_ _
                      have BF := B9
                      have F7 := P9
                      have F8 := R9
                      go_wp2_with fail
                      go_meet
                      case rel => exact ⟨g6, g7, rfl, rfl, F7, F8, BF⟩
              · rw [if_pos (by rfl)]
                refine wp_al rfl rfl ?_
                intro U10 g10 hbe10 hge10 hlt10 A10
                have B10 := Lib.hid (B5.out.trans (hbe10.mono B5.out.size))
                have hz10 := B5.out.size
                have hy10 := hbe10.size
                have R10 := A10
                clear A10
                clear hbe10
                refine hK.out _ _ (range_below hR B10.out) (fun _ => ?_)
                try simp only [Act.put, List.setIfInBounds_toArray, List.set_cons_zero, List.set_cons_succ]
                clear hK K
                refine wpAnyH_ready (rs := [7]) (by kernel_rfl) (by simp) ?_
                refine AllReadyH.cons rfl (fun K hK => ?_) AllReadyH.nil
                · rw [if_pos (by rfl)]
                  refine wp_al rfl rfl ?_
                  intro U11 g11 hbe11 hge11 hlt11 A11
                  have B11 := Lib.hid (B10.out.trans (hbe11.mono B10.out.size))
                  have hz11 := B10.out.size
                  have hy11 := hbe11.size
                  have R11 := Lib.hid (R10.out.below hbe11)
                  have P11 := A11
                  clear A11
                  clear hbe11
                  refine hK.out _ _ (range_below hR B11.out) (fun _ => ?_)
                  try simp only [Act.put, List.setIfInBounds_toArray, List.set_cons_zero, List.set_cons_succ]
                  clear hK K
                  refine wpAnyH_ready (rs := [9]) (by kernel_rfl) (by simp) ?_
                  refine AllReadyH.cons rfl (fun K hK => ?_) AllReadyH.nil
                  · rw [if_pos (by rfl)]
                    refine wp_st (.tmp 7) (.tmp 25) rfl rfl g11 zeros (T (l.take m)) P11.out (by simp [zeros]) (T_len _) rfl rfl ?_
                    intro U12 P12 hc12
                    have B12 := Lib.hid (Chg.below B11.out B11.out.size (by omega) hc12)
                    have hyy12 := (Array.getElem?_eq_some_iff.1 R11.out).1
                    have R12 := Lib.hid ((hc12.block g10 hyy12 (by omega)).trans R11.out)
                    clear hc12
                    refine hK.out _ _ (range_below hR B12.out) (fun _ => ?_)
                    try simp only [Act.put, List.setIfInBounds_toArray, List.set_cons_zero, List.set_cons_succ]
                    clear hK K
                    refine wpAnyH_ready (rs := [10]) (by kernel_rfl) (by simp) ?_
                    refine AllReadyH.cons rfl (fun K hK => ?_) AllReadyH.nil
                    · rw [if_pos (by rfl)]
                      refine wp_st (.tmp 8) (.tmp 28) rfl rfl g10 zeros (T [d]) R12.out (by simp [zeros]) (T_len _) rfl rfl ?_
                      intro U13 R13 hc13
                      have B13 := Lib.hid (Chg.below B12.out B12.out.size (by omega) hc13)
                      have hyy13 := (Array.getElem?_eq_some_iff.1 P12.out).1
                      have P13 := Lib.hid ((hc13.block g11 hyy13 (by omega)).trans P12.out)
                      clear hc13
                      refine hK.out _ _ (range_below hR B13.out) (fun _ => ?_)
                      try simp only [Act.put, List.setIfInBounds_toArray, List.set_cons_zero, List.set_cons_succ]
                      clear hK K
                      refine wpAnyH_done (by kernel_rfl) ?_ _
                      have BF := B13
                      have F7 := P13
                      have F8 := R13
                      go_wp2_with fail
                      go_meet
                      case rel => exact ⟨g11, g10, rfl, rfl, F7, F8, BF⟩
            · rw [if_pos (by rfl)]
              refine wp_al rfl rfl ?_
              intro U14 g14 hbe14 hge14 hlt14 A14
              have B14 := Lib.hid (B4.out.trans (hbe14.mono B4.out.size))
              have hz14 := B4.out.size
              have hy14 := hbe14.size
              have L14 := Lib.hid (L4.out.below hbe14)
              have P14 := A14
              clear A14
              clear hbe14
              refine hK.out _ _ (range_below hR B14.out) (fun _ => ?_)
              try simp only [Act.put, List.setIfInBounds_toArray, List.set_cons_zero, List.set_cons_succ]
              clear hK K
              refine wpAnyH_ready (rs := [6, 8]) (by kernel_rfl) (by simp) ?_
              refine AllReadyH.cons rfl (fun K hK => ?_) (AllReadyH.cons rfl (fun K hK => ?_) AllReadyH.nil)
              · rw [if_pos (by rfl)]
                go_simp
                go_at_call 17
                refine (CB.out U14 g4 B14.out L14.out).mono ?_
                rintro e U15 ⟨rfl, hbe15⟩
                have B15 := Lib.hid (B14.out.trans (hbe15.mono B14.out.size))
                have hz15 := B14.out.size
                have hy15 := hbe15.size
                have L15 := Lib.hid (L14.out.below hbe15)
                have P15 := Lib.hid (P14.out.below hbe15)
                clear hbe15
                refine hK.out _ _ (range_below hR B15.out) (fun _ => ?_)
                try simp only [Act.put, List.setIfInBounds_toArray, List.set_cons_zero, List.set_cons_succ]
                clear hK K
                refine wpAnyH_ready (rs := [8]) (by kernel_rfl) (by simp) ?_
                refine AllReadyH.cons rfl (fun K hK => ?_) AllReadyH.nil
                · rw [if_pos (by rfl)]
                  refine wp_al rfl rfl ?_
                  intro U16 g16 hbe16 hge16 hlt16 A16
                  have B16 := Lib.hid (B15.out.trans (hbe16.mono B15.out.size))
                  have hz16 := B15.out.size
                  have hy16 := hbe16.size
                  have P16 := Lib.hid (P15.out.below hbe16)
                  have R16 := A16
                  clear A16
                  clear hbe16
                  refine hK.out _ _ (range_below hR B16.out) (fun _ => ?_)
                  try simp only [Act.put, List.setIfInBounds_toArray, List.set_cons_zero, List.set_cons_succ]
                  clear hK K
                  refine wpAnyH_ready (rs := [9]) (by kernel_rfl) (by simp) ?_
                  refine AllReadyH.cons rfl (fun K hK => ?_) AllReadyH.nil
                  · rw [if_pos (by rfl)]
                    refine wp_st (.tmp 7) (.tmp 25) rfl rfl g14 zeros (T (l.take m)) P16.out (by simp [zeros]) (T_len _) rfl rfl ?_
                    intro U17 P17 hc17
                    have B17 := Lib.hid (Chg.below B16.out B16.out.size (by omega) hc17)
                    have hyy17 := (Array.getElem?_eq_some_iff.1 R16.out).1
                    have R17 := Lib.hid ((hc17.block g16 hyy17 (by omega)).trans R16.out)
                    clear hc17
                    refine hK.out _ _ (range_below hR B17.out) (fun _ => ?_)
                    try simp only [Act.put, List.setIfInBounds_toArray, List.set_cons_zero, List.set_cons_succ]
                    clear hK K
                    refine wpAnyH_ready (rs := [10]) (by kernel_rfl) (by simp) ?_
                    refine AllReadyH.cons rfl (fun K hK => ?_) AllReadyH.nil
                    · rw [if_pos (by rfl)]
                      refine wp_st (.tmp 8) (.tmp 28) rfl rfl g16 zeros (T [d]) R17.out (by simp [zeros]) (T_len _) rfl rfl ?_
                      intro U18 R18 hc18
                      have B18 := Lib.hid (Chg.below B17.out B17.out.size (by omega) hc18)
                      have hyy18 := (Array.getElem?_eq_some_iff.1 P17.out).1
                      have P18 := Lib.hid ((hc18.block g14 hyy18 (by omega)).trans P17.out)
                      clear hc18
                      refine hK.out _ _ (range_below hR B18.out) (fun _ => ?_)
                      try simp only [Act.put, List.setIfInBounds_toArray, List.set_cons_zero, List.set_cons_succ]
                      clear hK K
                      refine wpAnyH_done (by kernel_rfl) ?_ _
                      have BF := B18
                      have F7 := P18
                      have F8 := R18
                      go_wp2_with fail
                      go_meet
                      case rel => exact ⟨g14, g16, rfl, rfl, F7, F8, BF⟩
              · rw [if_pos (by rfl)]
                refine wp_al rfl rfl ?_
                intro U19 g19 hbe19 hge19 hlt19 A19
                have B19 := Lib.hid (B14.out.trans (hbe19.mono B14.out.size))
                have hz19 := B14.out.size
                have hy19 := hbe19.size
                have L19 := Lib.hid (L14.out.below hbe19)
                have P19 := Lib.hid (P14.out.below hbe19)
                have R19 := A19
                clear A19
                clear hbe19
                refine hK.out _ _ (range_below hR B19.out) (fun _ => ?_)
                try simp only [Act.put, List.setIfInBounds_toArray, List.set_cons_zero, List.set_cons_succ]
                clear hK K
                refine wpAnyH_ready (rs := [6]) (by kernel_rfl) (by simp) ?_
                refine AllReadyH.cons rfl (fun K hK => ?_) AllReadyH.nil
                · rw [if_pos (by rfl)]
                  go_simp
                  go_at_call 17
                  refine (CB.out U19 g4 B19.out L19.out).mono ?_
                  rintro e U20 ⟨rfl, hbe20⟩
                  have B20 := Lib.hid (B19.out.trans (hbe20.mono B19.out.size))
                  have hz20 := B19.out.size
                  have hy20 := hbe20.size
                  have L20 := Lib.hid (L19.out.below hbe20)
                  have P20 := Lib.hid (P19.out.below hbe20)
                  have R20 := Lib.hid (R19.out.below hbe20)
                  clear hbe20
                  refine hK.out _ _ (range_below hR B20.out) (fun _ => ?_)
                  try simp only [Act.put, List.setIfInBounds_toArray, List.set_cons_zero, List.set_cons_succ]
                  clear hK K
                  refine wpAnyH_ready (rs := [9]) (by kernel_rfl) (by simp) ?_
                  refine AllReadyH.cons rfl (fun K hK => ?_) AllReadyH.nil
                  · rw [if_pos (by rfl)]
                    refine wp_st (.tmp 7) (.tmp 25) rfl rfl g14 zeros (T (l.take m)) P20.out (by simp [zeros]) (T_len _) rfl rfl ?_
                    intro U21 P21 hc21
                    have B21 := Lib.hid (Chg.below B20.out B20.out.size (by omega) hc21)
                    have hyy21 := (Array.getElem?_eq_some_iff.1 R20.out).1
                    have R21 := Lib.hid ((hc21.block g19 hyy21 (by omega)).trans R20.out)
                    clear hc21
                    refine hK.out _ _ (range_below hR B21.out) (fun _ => ?_)
                    try simp only [Act.put, List.setIfInBounds_toArray, List.set_cons_zero, List.set_cons_succ]
                    clear hK K
                    refine wpAnyH_ready (rs := [10]) (by kernel_rfl) (by simp) ?_
                    refine AllReadyH.cons rfl (fun K hK => ?_) AllReadyH.nil
                    · rw [if_pos (by rfl)]
                      refine wp_st (.tmp 8) (.tmp 28) rfl rfl g19 zeros (T [d]) R21.out (by simp [zeros]) (T_len _) rfl rfl ?_
                      intro U22 R22 hc22
                      have B22 := Lib.hid (Chg.below B21.out B21.out.size (by omega) hc22)
                      have hyy22 := (Array.getElem?_eq_some_iff.1 P21.out).1
                      have P22 := Lib.hid ((hc22.block g14 hyy22 (by omega)).trans P21.out)
                      clear hc22
                      refine hK.out _ _ (range_below hR B22.out) (fun _ => ?_)
                      try simp only [Act.put, List.setIfInBounds_toArray, List.set_cons_zero, List.set_cons_succ]
                      clear hK K
                      refine wpAnyH_done (by kernel_rfl) ?_ _
                      have BF := B22
                      have F7 := P22
                      have F8 := R22
                      go_wp2_with fail
                      go_meet
                      case rel => exact ⟨g14, g19, rfl, rfl, F7, F8, BF⟩
            · rw [if_pos (by rfl)]
              refine wp_al rfl rfl ?_
              intro U23 g23 hbe23 hge23 hlt23 A23
              have B23 := Lib.hid (B4.out.trans (hbe23.mono B4.out.size))
              have hz23 := B4.out.size
              have hy23 := hbe23.size
              have L23 := Lib.hid (L4.out.below hbe23)
              have R23 := A23
              clear A23
              clear hbe23
              refine hK.out _ _ (range_below hR B23.out) (fun _ => ?_)
              try simp only [Act.put, List.setIfInBounds_toArray, List.set_cons_zero, List.set_cons_succ]
              clear hK K
              refine wpAnyH_ready (rs := [6, 7]) (by kernel_rfl) (by simp) ?_
              refine AllReadyH.cons rfl (fun K hK => ?_) (AllReadyH.cons rfl (fun K hK => ?_) AllReadyH.nil)
              · rw [if_pos (by rfl)]
                go_simp
                go_at_call 17
                refine (CB.out U23 g4 B23.out L23.out).mono ?_
                rintro e U24 ⟨rfl, hbe24⟩
                have B24 := Lib.hid (B23.out.trans (hbe24.mono B23.out.size))
                have hz24 := B23.out.size
                have hy24 := hbe24.size
                have L24 := Lib.hid (L23.out.below hbe24)
                have R24 := Lib.hid (R23.out.below hbe24)
                clear hbe24
                refine hK.out _ _ (range_below hR B24.out) (fun _ => ?_)
                try simp only [Act.put, List.setIfInBounds_toArray, List.set_cons_zero, List.set_cons_succ]
                clear hK K
                refine wpAnyH_ready (rs := [7]) (by kernel_rfl) (by simp) ?_
                refine AllReadyH.cons rfl (fun K hK => ?_) AllReadyH.nil
                · rw [if_pos (by rfl)]
                  refine wp_al rfl rfl ?_
                  intro U25 g25 hbe25 hge25 hlt25 A25
                  have B25 := Lib.hid (B24.out.trans (hbe25.mono B24.out.size))
                  have hz25 := B24.out.size
                  have hy25 := hbe25.size
                  have R25 := Lib.hid (R24.out.below hbe25)
                  have P25 := A25
                  clear A25
                  clear hbe25
                  refine hK.out _ _ (range_below hR B25.out) (fun _ => ?_)
                  try simp only [Act.put, List.setIfInBounds_toArray, List.set_cons_zero, List.set_cons_succ]
                  clear hK K
                  refine wpAnyH_ready (rs := [9]) (by kernel_rfl) (by simp) ?_
                  refine AllReadyH.cons rfl (fun K hK => ?_) AllReadyH.nil
                  · rw [if_pos (by rfl)]
                    refine wp_st (.tmp 7) (.tmp 25) rfl rfl g25 zeros (T (l.take m)) P25.out (by simp [zeros]) (T_len _) rfl rfl ?_
                    intro U26 P26 hc26
                    have B26 := Lib.hid (Chg.below B25.out B25.out.size (by omega) hc26)
                    have hyy26 := (Array.getElem?_eq_some_iff.1 R25.out).1
                    have R26 := Lib.hid ((hc26.block g23 hyy26 (by omega)).trans R25.out)
                    clear hc26
                    refine hK.out _ _ (range_below hR B26.out) (fun _ => ?_)
                    try simp only [Act.put, List.setIfInBounds_toArray, List.set_cons_zero, List.set_cons_succ]
                    clear hK K
                    refine wpAnyH_ready (rs := [10]) (by kernel_rfl) (by simp) ?_
                    refine AllReadyH.cons rfl (fun K hK => ?_) AllReadyH.nil
                    · rw [if_pos (by rfl)]
                      refine wp_st (.tmp 8) (.tmp 28) rfl rfl g23 zeros (T [d]) R26.out (by simp [zeros]) (T_len _) rfl rfl ?_
                      intro U27 R27 hc27
                      have B27 := Lib.hid (Chg.below B26.out B26.out.size (by omega) hc27)
                      have hyy27 := (Array.getElem?_eq_some_iff.1 P26.out).1
                      have P27 := Lib.hid ((hc27.block g25 hyy27 (by omega)).trans P26.out)
                      clear hc27
                      refine hK.out _ _ (range_below hR B27.out) (fun _ => ?_)
                      try simp only [Act.put, List.setIfInBounds_toArray, List.set_cons_zero, List.set_cons_succ]
                      clear hK K
                      refine wpAnyH_done (by kernel_rfl) ?_ _
                      have BF := B27
                      have F7 := P27
                      have F8 := R27
                      go_wp2_with fail
                      go_meet
                      case rel => exact ⟨g25, g23, rfl, rfl, F7, F8, BF⟩
              · rw [if_pos (by rfl)]
                refine wp_al rfl rfl ?_
                intro U28 g28 hbe28 hge28 hlt28 A28
                have B28 := Lib.hid (B23.out.trans (hbe28.mono B23.out.size))
                have hz28 := B23.out.size
                have hy28 := hbe28.size
                have L28 := Lib.hid (L23.out.below hbe28)
                have R28 := Lib.hid (R23.out.below hbe28)
                have P28 := A28
                clear A28
                clear hbe28
                refine hK.out _ _ (range_below hR B28.out) (fun _ => ?_)
                try simp only [Act.put, List.setIfInBounds_toArray, List.set_cons_zero, List.set_cons_succ]
                clear hK K
                refine wpAnyH_ready (rs := [6]) (by kernel_rfl) (by simp) ?_
                refine AllReadyH.cons rfl (fun K hK => ?_) AllReadyH.nil
                · rw [if_pos (by rfl)]
                  go_simp
                  go_at_call 17
                  refine (CB.out U28 g4 B28.out L28.out).mono ?_
                  rintro e U29 ⟨rfl, hbe29⟩
                  have B29 := Lib.hid (B28.out.trans (hbe29.mono B28.out.size))
                  have hz29 := B28.out.size
                  have hy29 := hbe29.size
                  have L29 := Lib.hid (L28.out.below hbe29)
                  have P29 := Lib.hid (P28.out.below hbe29)
                  have R29 := Lib.hid (R28.out.below hbe29)
                  clear hbe29
                  refine hK.out _ _ (range_below hR B29.out) (fun _ => ?_)
                  try simp only [Act.put, List.setIfInBounds_toArray, List.set_cons_zero, List.set_cons_succ]
                  clear hK K
                  refine wpAnyH_ready (rs := [9]) (by kernel_rfl) (by simp) ?_
                  refine AllReadyH.cons rfl (fun K hK => ?_) AllReadyH.nil
                  · rw [if_pos (by rfl)]
                    refine wp_st (.tmp 7) (.tmp 25) rfl rfl g28 zeros (T (l.take m)) P29.out (by simp [zeros]) (T_len _) rfl rfl ?_
                    intro U30 P30 hc30
                    have B30 := Lib.hid (Chg.below B29.out B29.out.size (by omega) hc30)
                    have hyy30 := (Array.getElem?_eq_some_iff.1 R29.out).1
                    have R30 := Lib.hid ((hc30.block g23 hyy30 (by omega)).trans R29.out)
                    clear hc30
                    refine hK.out _ _ (range_below hR B30.out) (fun _ => ?_)
                    try simp only [Act.put, List.setIfInBounds_toArray, List.set_cons_zero, List.set_cons_succ]
                    clear hK K
                    refine wpAnyH_ready (rs := [10]) (by kernel_rfl) (by simp) ?_
                    refine AllReadyH.cons rfl (fun K hK => ?_) AllReadyH.nil
                    · rw [if_pos (by rfl)]
                      refine wp_st (.tmp 8) (.tmp 28) rfl rfl g23 zeros (T [d]) R30.out (by simp [zeros]) (T_len _) rfl rfl ?_
                      intro U31 R31 hc31
                      have B31 := Lib.hid (Chg.below B30.out B30.out.size (by omega) hc31)
                      have hyy31 := (Array.getElem?_eq_some_iff.1 P30.out).1
                      have P31 := Lib.hid ((hc31.block g28 hyy31 (by omega)).trans P30.out)
                      clear hc31
                      refine hK.out _ _ (range_below hR B31.out) (fun _ => ?_)
                      try simp only [Act.put, List.setIfInBounds_toArray, List.set_cons_zero, List.set_cons_succ]
                      clear hK K
                      refine wpAnyH_done (by kernel_rfl) ?_ _
                      have BF := B31
                      have F7 := P31
                      have F8 := R31
                      go_wp2_with fail
                      go_meet
                      case rel => exact ⟨g28, g23, rfl, rfl, F7, F8, BF⟩
          · rw [if_pos (by rfl)]
            refine wp_al rfl rfl ?_
            intro U32 g32 hbe32 hge32 hlt32 A32
            have B32 := Lib.hid (B3.out.trans (hbe32.mono B3.out.size))
            have hz32 := B3.out.size
            have hy32 := hbe32.size
            have P32 := A32
            clear A32
            clear hbe32
            refine hK.out _ _ (range_below hR B32.out) (fun _ => ?_)
            try simp only [Act.put, List.setIfInBounds_toArray, List.set_cons_zero, List.set_cons_succ]
            clear hK K
            refine wpAnyH_ready (rs := [5, 8]) (by kernel_rfl) (by simp) ?_
            refine AllReadyH.cons rfl (fun K hK => ?_) (AllReadyH.cons rfl (fun K hK => ?_) AllReadyH.nil)
            · rw [if_pos (by rfl)]
              refine wp_b1 rfl 26 rfl d rfl HD32.out ?_
              intro U33 g33 hbe33 hge33 hlt33 L33x
              have B33 := Lib.hid (B32.out.trans (hbe33.mono B32.out.size))
              have hz33 := B32.out.size
              have hy33 := hbe33.size
              have P33 := Lib.hid (P32.out.below hbe33)
              have L33 := L33x
              clear L33x
              clear hbe33
              refine hK.out _ _ (range_below hR B33.out) (fun _ => ?_)
              try simp only [Act.put, List.setIfInBounds_toArray, List.set_cons_zero, List.set_cons_succ]
              clear hK K
              refine wpAnyH_ready (rs := [6, 8]) (by kernel_rfl) (by simp) ?_
              refine AllReadyH.cons rfl (fun K hK => ?_) (AllReadyH.cons rfl (fun K hK => ?_) AllReadyH.nil)
              · rw [if_pos (by rfl)]
                go_simp
                go_at_call 17
                refine (CB.out U33 g33 B33.out L33.out).mono ?_
                rintro e U34 ⟨rfl, hbe34⟩
                have B34 := Lib.hid (B33.out.trans (hbe34.mono B33.out.size))
                have hz34 := B33.out.size
                have hy34 := hbe34.size
                have L34 := Lib.hid (L33.out.below hbe34)
                have P34 := Lib.hid (P33.out.below hbe34)
                clear hbe34
                refine hK.out _ _ (range_below hR B34.out) (fun _ => ?_)
                try simp only [Act.put, List.setIfInBounds_toArray, List.set_cons_zero, List.set_cons_succ]
                clear hK K
                refine wpAnyH_ready (rs := [8]) (by kernel_rfl) (by simp) ?_
                refine AllReadyH.cons rfl (fun K hK => ?_) AllReadyH.nil
                · rw [if_pos (by rfl)]
                  refine wp_al rfl rfl ?_
                  intro U35 g35 hbe35 hge35 hlt35 A35
                  have B35 := Lib.hid (B34.out.trans (hbe35.mono B34.out.size))
                  have hz35 := B34.out.size
                  have hy35 := hbe35.size
                  have P35 := Lib.hid (P34.out.below hbe35)
                  have R35 := A35
                  clear A35
                  clear hbe35
                  refine hK.out _ _ (range_below hR B35.out) (fun _ => ?_)
                  try simp only [Act.put, List.setIfInBounds_toArray, List.set_cons_zero, List.set_cons_succ]
                  clear hK K
                  refine wpAnyH_ready (rs := [9]) (by kernel_rfl) (by simp) ?_
                  refine AllReadyH.cons rfl (fun K hK => ?_) AllReadyH.nil
                  · rw [if_pos (by rfl)]
                    refine wp_st (.tmp 7) (.tmp 25) rfl rfl g32 zeros (T (l.take m)) P35.out (by simp [zeros]) (T_len _) rfl rfl ?_
                    intro U36 P36 hc36
                    have B36 := Lib.hid (Chg.below B35.out B35.out.size (by omega) hc36)
                    have hyy36 := (Array.getElem?_eq_some_iff.1 R35.out).1
                    have R36 := Lib.hid ((hc36.block g35 hyy36 (by omega)).trans R35.out)
                    clear hc36
                    refine hK.out _ _ (range_below hR B36.out) (fun _ => ?_)
                    try simp only [Act.put, List.setIfInBounds_toArray, List.set_cons_zero, List.set_cons_succ]
                    clear hK K
                    refine wpAnyH_ready (rs := [10]) (by kernel_rfl) (by simp) ?_
                    refine AllReadyH.cons rfl (fun K hK => ?_) AllReadyH.nil
                    · rw [if_pos (by rfl)]
                      refine wp_st (.tmp 8) (.tmp 28) rfl rfl g35 zeros (T [d]) R36.out (by simp [zeros]) (T_len _) rfl rfl ?_
                      intro U37 R37 hc37
                      have B37 := Lib.hid (Chg.below B36.out B36.out.size (by omega) hc37)
                      have hyy37 := (Array.getElem?_eq_some_iff.1 P36.out).1
                      have P37 := Lib.hid ((hc37.block g32 hyy37 (by omega)).trans P36.out)
                      clear hc37
                      refine hK.out _ _ (range_below hR B37.out) (fun _ => ?_)
                      try simp only [Act.put, List.setIfInBounds_toArray, List.set_cons_zero, List.set_cons_succ]
                      clear hK K
                      refine wpAnyH_done (by kernel_rfl) ?_ _
                      have BF := B37
                      have F7 := P37
                      have F8 := R37
                      go_wp2_with fail
                      go_meet
                      case rel => exact ⟨g32, g35, rfl, rfl, F7, F8, BF⟩
              · rw [if_pos (by rfl)]
                refine wp_al rfl rfl ?_
                intro U38 g38 hbe38 hge38 hlt38 A38
                have B38 := Lib.hid (B33.out.trans (hbe38.mono B33.out.size))
                have hz38 := B33.out.size
                have hy38 := hbe38.size
                have L38 := Lib.hid (L33.out.below hbe38)
                have P38 := Lib.hid (P33.out.below hbe38)
                have R38 := A38
                clear A38
                clear hbe38
                refine hK.out _ _ (range_below hR B38.out) (fun _ => ?_)
                try simp only [Act.put, List.setIfInBounds_toArray, List.set_cons_zero, List.set_cons_succ]
                clear hK K
                refine wpAnyH_ready (rs := [6]) (by kernel_rfl) (by simp) ?_
                refine AllReadyH.cons rfl (fun K hK => ?_) AllReadyH.nil
                · rw [if_pos (by rfl)]
                  go_simp
                  go_at_call 17
                  refine (CB.out U38 g33 B38.out L38.out).mono ?_
                  rintro e U39 ⟨rfl, hbe39⟩
                  have B39 := Lib.hid (B38.out.trans (hbe39.mono B38.out.size))
                  have hz39 := B38.out.size
                  have hy39 := hbe39.size
                  have L39 := Lib.hid (L38.out.below hbe39)
                  have P39 := Lib.hid (P38.out.below hbe39)
                  have R39 := Lib.hid (R38.out.below hbe39)
                  clear hbe39
                  refine hK.out _ _ (range_below hR B39.out) (fun _ => ?_)
                  try simp only [Act.put, List.setIfInBounds_toArray, List.set_cons_zero, List.set_cons_succ]
                  clear hK K
                  refine wpAnyH_ready (rs := [9]) (by kernel_rfl) (by simp) ?_
                  refine AllReadyH.cons rfl (fun K hK => ?_) AllReadyH.nil
                  · rw [if_pos (by rfl)]
                    refine wp_st (.tmp 7) (.tmp 25) rfl rfl g32 zeros (T (l.take m)) P39.out (by simp [zeros]) (T_len _) rfl rfl ?_
                    intro U40 P40 hc40
                    have B40 := Lib.hid (Chg.below B39.out B39.out.size (by omega) hc40)
                    have hyy40 := (Array.getElem?_eq_some_iff.1 R39.out).1
                    have R40 := Lib.hid ((hc40.block g38 hyy40 (by omega)).trans R39.out)
                    clear hc40
                    refine hK.out _ _ (range_below hR B40.out) (fun _ => ?_)
                    try simp only [Act.put, List.setIfInBounds_toArray, List.set_cons_zero, List.set_cons_succ]
                    clear hK K
                    refine wpAnyH_ready (rs := [10]) (by kernel_rfl) (by simp) ?_
                    refine AllReadyH.cons rfl (fun K hK => ?_) AllReadyH.nil
                    · rw [if_pos (by rfl)]
                      refine wp_st (.tmp 8) (.tmp 28) rfl rfl g38 zeros (T [d]) R40.out (by simp [zeros]) (T_len _) rfl rfl ?_
                      intro U41 R41 hc41
                      have B41 := Lib.hid (Chg.below B40.out B40.out.size (by omega) hc41)
                      have hyy41 := (Array.getElem?_eq_some_iff.1 P40.out).1
                      have P41 := Lib.hid ((hc41.block g32 hyy41 (by omega)).trans P40.out)
                      clear hc41
                      refine hK.out _ _ (range_below hR B41.out) (fun _ => ?_)
                      try simp only [Act.put, List.setIfInBounds_toArray, List.set_cons_zero, List.set_cons_succ]
                      clear hK K
                      refine wpAnyH_done (by kernel_rfl) ?_ _
                      have BF := B41
                      have F7 := P41
                      have F8 := R41
                      go_wp2_with fail
                      go_meet
                      case rel => exact ⟨g32, g38, rfl, rfl, F7, F8, BF⟩
            · rw [if_pos (by rfl)]
              refine wp_al rfl rfl ?_
              intro U42 g42 hbe42 hge42 hlt42 A42
              have B42 := Lib.hid (B32.out.trans (hbe42.mono B32.out.size))
              have hz42 := B32.out.size
              have hy42 := hbe42.size
              have P42 := Lib.hid (P32.out.below hbe42)
              have R42 := A42
              clear A42
              clear hbe42
              refine hK.out _ _ (range_below hR B42.out) (fun _ => ?_)
              try simp only [Act.put, List.setIfInBounds_toArray, List.set_cons_zero, List.set_cons_succ]
              clear hK K
              refine wpAnyH_ready (rs := [5]) (by kernel_rfl) (by simp) ?_
              refine AllReadyH.cons rfl (fun K hK => ?_) AllReadyH.nil
              · rw [if_pos (by rfl)]
                refine wp_b1 rfl 26 rfl d rfl HD32.out ?_
                intro U43 g43 hbe43 hge43 hlt43 L43x
                have B43 := Lib.hid (B42.out.trans (hbe43.mono B42.out.size))
                have hz43 := B42.out.size
                have hy43 := hbe43.size
                have P43 := Lib.hid (P42.out.below hbe43)
                have R43 := Lib.hid (R42.out.below hbe43)
                have L43 := L43x
                clear L43x
                clear hbe43
                refine hK.out _ _ (range_below hR B43.out) (fun _ => ?_)
                try simp only [Act.put, List.setIfInBounds_toArray, List.set_cons_zero, List.set_cons_succ]
                clear hK K
                refine wpAnyH_ready (rs := [6]) (by kernel_rfl) (by simp) ?_
                refine AllReadyH.cons rfl (fun K hK => ?_) AllReadyH.nil
                · rw [if_pos (by rfl)]
                  go_simp
                  go_at_call 17
                  refine (CB.out U43 g43 B43.out L43.out).mono ?_
                  rintro e U44 ⟨rfl, hbe44⟩
                  have B44 := Lib.hid (B43.out.trans (hbe44.mono B43.out.size))
                  have hz44 := B43.out.size
                  have hy44 := hbe44.size
                  have L44 := Lib.hid (L43.out.below hbe44)
                  have P44 := Lib.hid (P43.out.below hbe44)
                  have R44 := Lib.hid (R43.out.below hbe44)
                  clear hbe44
                  refine hK.out _ _ (range_below hR B44.out) (fun _ => ?_)
                  try simp only [Act.put, List.setIfInBounds_toArray, List.set_cons_zero, List.set_cons_succ]
                  clear hK K
                  refine wpAnyH_ready (rs := [9]) (by kernel_rfl) (by simp) ?_
                  refine AllReadyH.cons rfl (fun K hK => ?_) AllReadyH.nil
                  · rw [if_pos (by rfl)]
                    refine wp_st (.tmp 7) (.tmp 25) rfl rfl g32 zeros (T (l.take m)) P44.out (by simp [zeros]) (T_len _) rfl rfl ?_
                    intro U45 P45 hc45
                    have B45 := Lib.hid (Chg.below B44.out B44.out.size (by omega) hc45)
                    have hyy45 := (Array.getElem?_eq_some_iff.1 R44.out).1
                    have R45 := Lib.hid ((hc45.block g42 hyy45 (by omega)).trans R44.out)
                    clear hc45
                    refine hK.out _ _ (range_below hR B45.out) (fun _ => ?_)
                    try simp only [Act.put, List.setIfInBounds_toArray, List.set_cons_zero, List.set_cons_succ]
                    clear hK K
                    refine wpAnyH_ready (rs := [10]) (by kernel_rfl) (by simp) ?_
                    refine AllReadyH.cons rfl (fun K hK => ?_) AllReadyH.nil
                    · rw [if_pos (by rfl)]
                      refine wp_st (.tmp 8) (.tmp 28) rfl rfl g42 zeros (T [d]) R45.out (by simp [zeros]) (T_len _) rfl rfl ?_
                      intro U46 R46 hc46
                      have B46 := Lib.hid (Chg.below B45.out B45.out.size (by omega) hc46)
                      have hyy46 := (Array.getElem?_eq_some_iff.1 P45.out).1
                      have P46 := Lib.hid ((hc46.block g32 hyy46 (by omega)).trans P45.out)
                      clear hc46
                      refine hK.out _ _ (range_below hR B46.out) (fun _ => ?_)
                      try simp only [Act.put, List.setIfInBounds_toArray, List.set_cons_zero, List.set_cons_succ]
                      clear hK K
                      refine wpAnyH_done (by kernel_rfl) ?_ _
                      have BF := B46
                      have F7 := P46
                      have F8 := R46
                      go_wp2_with fail
                      go_meet
                      case rel => exact ⟨g32, g42, rfl, rfl, F7, F8, BF⟩
          · rw [if_pos (by rfl)]
            refine wp_al rfl rfl ?_
            intro U47 g47 hbe47 hge47 hlt47 A47
            have B47 := Lib.hid (B3.out.trans (hbe47.mono B3.out.size))
            have hz47 := B3.out.size
            have hy47 := hbe47.size
            have R47 := A47
            clear A47
            clear hbe47
            refine hK.out _ _ (range_below hR B47.out) (fun _ => ?_)
            try simp only [Act.put, List.setIfInBounds_toArray, List.set_cons_zero, List.set_cons_succ]
            clear hK K
            refine wpAnyH_ready (rs := [5, 7]) (by kernel_rfl) (by simp) ?_
            refine AllReadyH.cons rfl (fun K hK => ?_) (AllReadyH.cons rfl (fun K hK => ?_) AllReadyH.nil)
            · rw [if_pos (by rfl)]
              refine wp_b1 rfl 26 rfl d rfl HD32.out ?_
              intro U48 g48 hbe48 hge48 hlt48 L48x
              have B48 := Lib.hid (B47.out.trans (hbe48.mono B47.out.size))
              have hz48 := B47.out.size
              have hy48 := hbe48.size
              have R48 := Lib.hid (R47.out.below hbe48)
              have L48 := L48x
              clear L48x
              clear hbe48
              refine hK.out _ _ (range_below hR B48.out) (fun _ => ?_)
              try simp only [Act.put, List.setIfInBounds_toArray, List.set_cons_zero, List.set_cons_succ]
              clear hK K
              refine wpAnyH_ready (rs := [6, 7]) (by kernel_rfl) (by simp) ?_
              refine AllReadyH.cons rfl (fun K hK => ?_) (AllReadyH.cons rfl (fun K hK => ?_) AllReadyH.nil)
              · rw [if_pos (by rfl)]
                go_simp
                go_at_call 17
                refine (CB.out U48 g48 B48.out L48.out).mono ?_
                rintro e U49 ⟨rfl, hbe49⟩
                have B49 := Lib.hid (B48.out.trans (hbe49.mono B48.out.size))
                have hz49 := B48.out.size
                have hy49 := hbe49.size
                have L49 := Lib.hid (L48.out.below hbe49)
                have R49 := Lib.hid (R48.out.below hbe49)
                clear hbe49
                refine hK.out _ _ (range_below hR B49.out) (fun _ => ?_)
                try simp only [Act.put, List.setIfInBounds_toArray, List.set_cons_zero, List.set_cons_succ]
                clear hK K
                refine wpAnyH_ready (rs := [7]) (by kernel_rfl) (by simp) ?_
                refine AllReadyH.cons rfl (fun K hK => ?_) AllReadyH.nil
                · rw [if_pos (by rfl)]
                  refine wp_al rfl rfl ?_
                  intro U50 g50 hbe50 hge50 hlt50 A50
                  have B50 := Lib.hid (B49.out.trans (hbe50.mono B49.out.size))
                  have hz50 := B49.out.size
                  have hy50 := hbe50.size
                  have R50 := Lib.hid (R49.out.below hbe50)
                  have P50 := A50
                  clear A50
                  clear hbe50
                  refine hK.out _ _ (range_below hR B50.out) (fun _ => ?_)
                  try simp only [Act.put, List.setIfInBounds_toArray, List.set_cons_zero, List.set_cons_succ]
                  clear hK K
                  refine wpAnyH_ready (rs := [9]) (by kernel_rfl) (by simp) ?_
                  refine AllReadyH.cons rfl (fun K hK => ?_) AllReadyH.nil
                  · rw [if_pos (by rfl)]
                    refine wp_st (.tmp 7) (.tmp 25) rfl rfl g50 zeros (T (l.take m)) P50.out (by simp [zeros]) (T_len _) rfl rfl ?_
                    intro U51 P51 hc51
                    have B51 := Lib.hid (Chg.below B50.out B50.out.size (by omega) hc51)
                    have hyy51 := (Array.getElem?_eq_some_iff.1 R50.out).1
                    have R51 := Lib.hid ((hc51.block g47 hyy51 (by omega)).trans R50.out)
                    clear hc51
                    refine hK.out _ _ (range_below hR B51.out) (fun _ => ?_)
                    try simp only [Act.put, List.setIfInBounds_toArray, List.set_cons_zero, List.set_cons_succ]
                    clear hK K
                    refine wpAnyH_ready (rs := [10]) (by kernel_rfl) (by simp) ?_
                    refine AllReadyH.cons rfl (fun K hK => ?_) AllReadyH.nil
                    · rw [if_pos (by rfl)]
                      refine wp_st (.tmp 8) (.tmp 28) rfl rfl g47 zeros (T [d]) R51.out (by simp [zeros]) (T_len _) rfl rfl ?_
                      intro U52 R52 hc52
                      have B52 := Lib.hid (Chg.below B51.out B51.out.size (by omega) hc52)
                      have hyy52 := (Array.getElem?_eq_some_iff.1 P51.out).1
                      have P52 := Lib.hid ((hc52.block g50 hyy52 (by omega)).trans P51.out)
                      clear hc52
                      refine hK.out _ _ (range_below hR B52.out) (fun _ => ?_)
                      try simp only [Act.put, List.setIfInBounds_toArray, List.set_cons_zero, List.set_cons_succ]
                      clear hK K
                      refine wpAnyH_done (by kernel_rfl) ?_ _
                      have BF := B52
                      have F7 := P52
                      have F8 := R52
                      go_wp2_with fail
                      go_meet
                      case rel => exact ⟨g50, g47, rfl, rfl, F7, F8, BF⟩
              · rw [if_pos (by rfl)]
                refine wp_al rfl rfl ?_
                intro U53 g53 hbe53 hge53 hlt53 A53
                have B53 := Lib.hid (B48.out.trans (hbe53.mono B48.out.size))
                have hz53 := B48.out.size
                have hy53 := hbe53.size
                have L53 := Lib.hid (L48.out.below hbe53)
                have R53 := Lib.hid (R48.out.below hbe53)
                have P53 := A53
                clear A53
                clear hbe53
                refine hK.out _ _ (range_below hR B53.out) (fun _ => ?_)
                try simp only [Act.put, List.setIfInBounds_toArray, List.set_cons_zero, List.set_cons_succ]
                clear hK K
                refine wpAnyH_ready (rs := [6]) (by kernel_rfl) (by simp) ?_
                refine AllReadyH.cons rfl (fun K hK => ?_) AllReadyH.nil
                · rw [if_pos (by rfl)]
                  go_simp
                  go_at_call 17
                  refine (CB.out U53 g48 B53.out L53.out).mono ?_
                  rintro e U54 ⟨rfl, hbe54⟩
                  have B54 := Lib.hid (B53.out.trans (hbe54.mono B53.out.size))
                  have hz54 := B53.out.size
                  have hy54 := hbe54.size
                  have L54 := Lib.hid (L53.out.below hbe54)
                  have P54 := Lib.hid (P53.out.below hbe54)
                  have R54 := Lib.hid (R53.out.below hbe54)
                  clear hbe54
                  refine hK.out _ _ (range_below hR B54.out) (fun _ => ?_)
                  try simp only [Act.put, List.setIfInBounds_toArray, List.set_cons_zero, List.set_cons_succ]
                  clear hK K
                  refine wpAnyH_ready (rs := [9]) (by kernel_rfl) (by simp) ?_
                  refine AllReadyH.cons rfl (fun K hK => ?_) AllReadyH.nil
                  · rw [if_pos (by rfl)]
                    refine wp_st (.tmp 7) (.tmp 25) rfl rfl g53 zeros (T (l.take m)) P54.out (by simp [zeros]) (T_len _) rfl rfl ?_
                    intro U55 P55 hc55
                    have B55 := Lib.hid (Chg.below B54.out B54.out.size (by omega) hc55)
                    have hyy55 := (Array.getElem?_eq_some_iff.1 R54.out).1
                    have R55 := Lib.hid ((hc55.block g47 hyy55 (by omega)).trans R54.out)
                    clear hc55
                    refine hK.out _ _ (range_below hR B55.out) (fun _ => ?_)
                    try simp only [Act.put, List.setIfInBounds_toArray, List.set_cons_zero, List.set_cons_succ]
                    clear hK K
                    refine wpAnyH_ready (rs := [10]) (by kernel_rfl) (by simp) ?_
                    refine AllReadyH.cons rfl (fun K hK => ?_) AllReadyH.nil
                    · rw [if_pos (by rfl)]
                      refine wp_st (.tmp 8) (.tmp 28) rfl rfl g47 zeros (T [d]) R55.out (by simp [zeros]) (T_len _) rfl rfl ?_
                      intro U56 R56 hc56
                      have B56 := Lib.hid (Chg.below B55.out B55.out.size (by omega) hc56)
                      have hyy56 := (Array.getElem?_eq_some_iff.1 P55.out).1
                      have P56 := Lib.hid ((hc56.block g53 hyy56 (by omega)).trans P55.out)
                      clear hc56
                      refine hK.out _ _ (range_below hR B56.out) (fun _ => ?_)
                      try simp only [Act.put, List.setIfInBounds_toArray, List.set_cons_zero, List.set_cons_succ]
                      clear hK K
                      refine wpAnyH_done (by kernel_rfl) ?_ _
                      have BF := B56
                      have F7 := P56
                      have F8 := R56
                      go_wp2_with fail
                      go_meet
                      case rel => exact ⟨g53, g47, rfl, rfl, F7, F8, BF⟩
            · rw [if_pos (by rfl)]
              refine wp_al rfl rfl ?_
              intro U57 g57 hbe57 hge57 hlt57 A57
              have B57 := Lib.hid (B47.out.trans (hbe57.mono B47.out.size))
              have hz57 := B47.out.size
              have hy57 := hbe57.size
              have R57 := Lib.hid (R47.out.below hbe57)
              have P57 := A57
              clear A57
              clear hbe57
              refine hK.out _ _ (range_below hR B57.out) (fun _ => ?_)
              try simp only [Act.put, List.setIfInBounds_toArray, List.set_cons_zero, List.set_cons_succ]
              clear hK K
              refine wpAnyH_ready (rs := [5]) (by kernel_rfl) (by simp) ?_
              refine AllReadyH.cons rfl (fun K hK => ?_) AllReadyH.nil
              · rw [if_pos (by rfl)]
                refine wp_b1 rfl 26 rfl d rfl HD32.out ?_
                intro U58 g58 hbe58 hge58 hlt58 L58x
                have B58 := Lib.hid (B57.out.trans (hbe58.mono B57.out.size))
                have hz58 := B57.out.size
                have hy58 := hbe58.size
                have P58 := Lib.hid (P57.out.below hbe58)
                have R58 := Lib.hid (R57.out.below hbe58)
                have L58 := L58x
                clear L58x
                clear hbe58
                refine hK.out _ _ (range_below hR B58.out) (fun _ => ?_)
                try simp only [Act.put, List.setIfInBounds_toArray, List.set_cons_zero, List.set_cons_succ]
                clear hK K
                refine wpAnyH_ready (rs := [6]) (by kernel_rfl) (by simp) ?_
                refine AllReadyH.cons rfl (fun K hK => ?_) AllReadyH.nil
                · rw [if_pos (by rfl)]
                  go_simp
                  go_at_call 17
                  refine (CB.out U58 g58 B58.out L58.out).mono ?_
                  rintro e U59 ⟨rfl, hbe59⟩
                  have B59 := Lib.hid (B58.out.trans (hbe59.mono B58.out.size))
                  have hz59 := B58.out.size
                  have hy59 := hbe59.size
                  have L59 := Lib.hid (L58.out.below hbe59)
                  have P59 := Lib.hid (P58.out.below hbe59)
                  have R59 := Lib.hid (R58.out.below hbe59)
                  clear hbe59
                  refine hK.out _ _ (range_below hR B59.out) (fun _ => ?_)
                  try simp only [Act.put, List.setIfInBounds_toArray, List.set_cons_zero, List.set_cons_succ]
                  clear hK K
                  refine wpAnyH_ready (rs := [9]) (by kernel_rfl) (by simp) ?_
                  refine AllReadyH.cons rfl (fun K hK => ?_) AllReadyH.nil
                  · rw [if_pos (by rfl)]
                    refine wp_st (.tmp 7) (.tmp 25) rfl rfl g57 zeros (T (l.take m)) P59.out (by simp [zeros]) (T_len _) rfl rfl ?_
                    intro U60 P60 hc60
                    have B60 := Lib.hid (Chg.below B59.out B59.out.size (by omega) hc60)
                    have hyy60 := (Array.getElem?_eq_some_iff.1 R59.out).1
                    have R60 := Lib.hid ((hc60.block g47 hyy60 (by omega)).trans R59.out)
                    clear hc60
                    refine hK.out _ _ (range_below hR B60.out) (fun _ => ?_)
                    try simp only [Act.put, List.setIfInBounds_toArray, List.set_cons_zero, List.set_cons_succ]
                    clear hK K
                    refine wpAnyH_ready (rs := [10]) (by kernel_rfl) (by simp) ?_
                    refine AllReadyH.cons rfl (fun K hK => ?_) AllReadyH.nil
                    · rw [if_pos (by rfl)]
                      refine wp_st (.tmp 8) (.tmp 28) rfl rfl g47 zeros (T [d]) R60.out (by simp [zeros]) (T_len _) rfl rfl ?_
                      intro U61 R61 hc61
                      have B61 := Lib.hid (Chg.below B60.out B60.out.size (by omega) hc61)
                      have hyy61 := (Array.getElem?_eq_some_iff.1 P60.out).1
                      have P61 := Lib.hid ((hc61.block g57 hyy61 (by omega)).trans P60.out)
                      clear hc61
                      refine hK.out _ _ (range_below hR B61.out) (fun _ => ?_)
                      try simp only [Act.put, List.setIfInBounds_toArray, List.set_cons_zero, List.set_cons_succ]
                      clear hK K
                      refine wpAnyH_done (by kernel_rfl) ?_ _
                      have BF := B61
                      have F7 := P61
                      have F8 := R61
                      go_wp2_with fail
                      go_meet
                      case rel => exact ⟨g57, g47, rfl, rfl, F7, F8, BF⟩
        · rw [if_pos (by rfl)]
          refine wp_b1 rfl 26 rfl d rfl HD32.out ?_
          intro U62 g62 hbe62 hge62 hlt62 L62x
          have B62 := Lib.hid (B2.out.trans (hbe62.mono B2.out.size))
          have hz62 := B2.out.size
          have hy62 := hbe62.size
          have L62 := L62x
          clear L62x
          clear hbe62
          refine hK.out _ _ (range_below hR B62.out) (fun _ => ?_)
          try simp only [Act.put, List.setIfInBounds_toArray, List.set_cons_zero, List.set_cons_succ]
          clear hK K
          refine wpAnyH_ready (rs := [3, 7, 8]) (by kernel_rfl) (by simp) ?_
          refine AllReadyH.cons rfl (fun K hK => ?_) (AllReadyH.cons rfl (fun K hK => ?_) (AllReadyH.cons rfl (fun K hK => ?_) AllReadyH.nil))
          · rw [if_pos (by rfl)]
            go_simp
            go_at_call 17
            refine (CA.out U62 B62.out).mono ?_
            rintro e U63 ⟨rfl, hbe63⟩
            have B63 := Lib.hid (B62.out.trans (hbe63.mono B62.out.size))
            have hz63 := B62.out.size
            have hy63 := hbe63.size
            have L63 := Lib.hid (L62.out.below hbe63)
            clear hbe63
            refine hK.out _ _ (range_below hR B63.out) (fun _ => ?_)
            try simp only [Act.put, List.setIfInBounds_toArray, List.set_cons_zero, List.set_cons_succ]
            clear hK K
            refine wpAnyH_ready (rs := [6, 7, 8]) (by kernel_rfl) (by simp) ?_
            refine AllReadyH.cons rfl (fun K hK => ?_) (AllReadyH.cons rfl (fun K hK => ?_) (AllReadyH.cons rfl (fun K hK => ?_) AllReadyH.nil))
            · rw [if_pos (by rfl)]
              go_simp
              go_at_call 17
              refine (CB.out U63 g62 B63.out L63.out).mono ?_
              rintro e U64 ⟨rfl, hbe64⟩
              have B64 := Lib.hid (B63.out.trans (hbe64.mono B63.out.size))
              have hz64 := B63.out.size
              have hy64 := hbe64.size
              have L64 := Lib.hid (L63.out.below hbe64)
              clear hbe64
              refine hK.out _ _ (range_below hR B64.out) (fun _ => ?_)
              try simp only [Act.put, List.setIfInBounds_toArray, List.set_cons_zero, List.set_cons_succ]
              clear hK K
              refine wpAnyH_ready (rs := [7, 8]) (by kernel_rfl) (by simp) ?_
              refine AllReadyH.cons rfl (fun K hK => ?_) (AllReadyH.cons rfl (fun K hK => ?_) AllReadyH.nil)
              · rw [if_pos (by rfl)]
                refine wp_al rfl rfl ?_
                intro U65 g65 hbe65 hge65 hlt65 A65
                have B65 := Lib.hid (B64.out.trans (hbe65.mono B64.out.size))
                have hz65 := B64.out.size
                have hy65 := hbe65.size
                have P65 := A65
                clear A65
                clear hbe65
                refine hK.out _ _ (range_below hR B65.out) (fun _ => ?_)
                try simp only [Act.put, List.setIfInBounds_toArray, List.set_cons_zero, List.set_cons_succ]
                clear hK K
                refine wpAnyH_ready (rs := [8]) (by kernel_rfl) (by simp) ?_
                refine AllReadyH.cons rfl (fun K hK => ?_) AllReadyH.nil
                · rw [if_pos (by rfl)]
                  refine wp_al rfl rfl ?_
                  intro U66 g66 hbe66 hge66 hlt66 A66
                  have B66 := Lib.hid (B65.out.trans (hbe66.mono B65.out.size))
                  have hz66 := B65.out.size
                  have hy66 := hbe66.size
                  have P66 := Lib.hid (P65.out.below hbe66)
                  have R66 := A66
                  clear A66
                  clear hbe66
                  refine hK.out _ _ (range_below hR B66.out) (fun _ => ?_)
                  try simp only [Act.put, List.setIfInBounds_toArray, List.set_cons_zero, List.set_cons_succ]
                  clear hK K
                  refine wpAnyH_ready (rs := [9]) (by kernel_rfl) (by simp) ?_
                  refine AllReadyH.cons rfl (fun K hK => ?_) AllReadyH.nil
                  · rw [if_pos (by rfl)]
                    refine wp_st (.tmp 7) (.tmp 25) rfl rfl g65 zeros (T (l.take m)) P66.out (by simp [zeros]) (T_len _) rfl rfl ?_
                    intro U67 P67 hc67
                    have B67 := Lib.hid (Chg.below B66.out B66.out.size (by omega) hc67)
                    have hyy67 := (Array.getElem?_eq_some_iff.1 R66.out).1
                    have R67 := Lib.hid ((hc67.block g66 hyy67 (by omega)).trans R66.out)
                    clear hc67
                    refine hK.out _ _ (range_below hR B67.out) (fun _ => ?_)
                    try simp only [Act.put, List.setIfInBounds_toArray, List.set_cons_zero, List.set_cons_succ]
                    clear hK K
                    refine wpAnyH_ready (rs := [10]) (by kernel_rfl) (by simp) ?_
                    refine AllReadyH.cons rfl (fun K hK => ?_) AllReadyH.nil
                    · rw [if_pos (by rfl)]
                      refine wp_st (.tmp 8) (.tmp 28) rfl rfl g66 zeros (T [d]) R67.out (by simp [zeros]) (T_len _) rfl rfl ?_
                      intro U68 R68 hc68
                      have B68 := Lib.hid (Chg.below B67.out B67.out.size (by omega) hc68)
                      have hyy68 := (Array.getElem?_eq_some_iff.1 P67.out).1
                      have P68 := Lib.hid ((hc68.block g65 hyy68 (by omega)).trans P67.out)
                      clear hc68
                      refine hK.out _ _ (range_below hR B68.out) (fun _ => ?_)
                      try simp only [Act.put, List.setIfInBounds_toArray, List.set_cons_zero, List.set_cons_succ]
                      clear hK K
                      refine wpAnyH_done (by kernel_rfl) ?_ _
                      have BF := B68
                      have F7 := P68
                      have F8 := R68
                      go_wp2_with fail
                      go_meet
                      case rel => exact ⟨g65, g66, rfl, rfl, F7, F8, BF⟩
              · rw [if_pos (by rfl)]
                refine wp_al rfl rfl ?_
                intro U69 g69 hbe69 hge69 hlt69 A69
                have B69 := Lib.hid (B64.out.trans (hbe69.mono B64.out.size))
                have hz69 := B64.out.size
                have hy69 := hbe69.size
                have R69 := A69
                clear A69
                clear hbe69
                refine hK.out _ _ (range_below hR B69.out) (fun _ => ?_)
                try simp only [Act.put, List.setIfInBounds_toArray, List.set_cons_zero, List.set_cons_succ]
                clear hK K
                refine wpAnyH_ready (rs := [7]) (by kernel_rfl) (by simp) ?_
                refine AllReadyH.cons rfl (fun K hK => ?_) AllReadyH.nil
                · rw [if_pos (by rfl)]
                  refine wp_al rfl rfl ?_
                  intro U70 g70 hbe70 hge70 hlt70 A70
                  have B70 := Lib.hid (B69.out.trans (hbe70.mono B69.out.size))
                  have hz70 := B69.out.size
                  have hy70 := hbe70.size
                  have R70 := Lib.hid (R69.out.below hbe70)
                  have P70 := A70
                  clear A70
                  clear hbe70
                  refine hK.out _ _ (range_below hR B70.out) (fun _ => ?_)
                  try simp only [Act.put, List.setIfInBounds_toArray, List.set_cons_zero, List.set_cons_succ]
                  clear hK K
                  refine wpAnyH_ready (rs := [9]) (by kernel_rfl) (by simp) ?_
                  refine AllReadyH.cons rfl (fun K hK => ?_) AllReadyH.nil
                  · rw [if_pos (by rfl)]
                    refine wp_st (.tmp 7) (.tmp 25) rfl rfl g70 zeros (T (l.take m)) P70.out (by simp [zeros]) (T_len _) rfl rfl ?_
                    intro U71 P71 hc71
                    have B71 := Lib.hid (Chg.below B70.out B70.out.size (by omega) hc71)
                    have hyy71 := (Array.getElem?_eq_some_iff.1 R70.out).1
                    have R71 := Lib.hid ((hc71.block g69 hyy71 (by omega)).trans R70.out)
                    clear hc71
                    refine hK.out _ _ (range_below hR B71.out) (fun _ => ?_)
                    try simp only [Act.put, List.setIfInBounds_toArray, List.set_cons_zero, List.set_cons_succ]
                    clear hK K
                    refine wpAnyH_ready (rs := [10]) (by kernel_rfl) (by simp) ?_
                    refine AllReadyH.cons rfl (fun K hK => ?_) AllReadyH.nil
                    · rw [if_pos (by rfl)]
                      refine wp_st (.tmp 8) (.tmp 28) rfl rfl g69 zeros (T [d]) R71.out (by simp [zeros]) (T_len _) rfl rfl ?_
                      intro U72 R72 hc72
                      have B72 := Lib.hid (Chg.below B71.out B71.out.size (by omega) hc72)
                      have hyy72 := (Array.getElem?_eq_some_iff.1 P71.out).1
                      have P72 := Lib.hid ((hc72.block g70 hyy72 (by omega)).trans P71.out)
                      clear hc72
                      refine hK.out _ _ (range_below hR B72.out) (fun _ => ?_)
                      try simp only [Act.put, List.setIfInBounds_toArray, List.set_cons_zero, List.set_cons_succ]
                      clear hK K
                      refine wpAnyH_done (by kernel_rfl) ?_ _
                      have BF := B72
                      have F7 := P72
                      have F8 := R72
                      go_wp2_with fail
                      go_meet
                      case rel => exact ⟨g70, g69, rfl, rfl, F7, F8, BF⟩
            · rw [if_pos (by rfl)]
              refine wp_al rfl rfl ?_
              intro U73 g73 hbe73 hge73 hlt73 A73
              have B73 := Lib.hid (B63.out.trans (hbe73.mono B63.out.size))
              have hz73 := B63.out.size
              have hy73 := hbe73.size
              have L73 := Lib.hid (L63.out.below hbe73)
              have P73 := A73
              clear A73
              clear hbe73
              refine hK.out _ _ (range_below hR B73.out) (fun _ => ?_)
              try simp only [Act.put, List.setIfInBounds_toArray, List.set_cons_zero, List.set_cons_succ]
              clear hK K
              refine wpAnyH_ready (rs := [6, 8]) (by kernel_rfl) (by simp) ?_
              refine AllReadyH.cons rfl (fun K hK => ?_) (AllReadyH.cons rfl (fun K hK => ?_) AllReadyH.nil)
              · rw [if_pos (by rfl)]
                go_simp
                go_at_call 17
                refine (CB.out U73 g62 B73.out L73.out).mono ?_
                rintro e U74 ⟨rfl, hbe74⟩
                have B74 := Lib.hid (B73.out.trans (hbe74.mono B73.out.size))
                have hz74 := B73.out.size
                have hy74 := hbe74.size
                have L74 := Lib.hid (L73.out.below hbe74)
                have P74 := Lib.hid (P73.out.below hbe74)
                clear hbe74
                refine hK.out _ _ (range_below hR B74.out) (fun _ => ?_)
                try simp only [Act.put, List.setIfInBounds_toArray, List.set_cons_zero, List.set_cons_succ]
                clear hK K
                refine wpAnyH_ready (rs := [8]) (by kernel_rfl) (by simp) ?_
                refine AllReadyH.cons rfl (fun K hK => ?_) AllReadyH.nil
                · rw [if_pos (by rfl)]
                  refine wp_al rfl rfl ?_
                  intro U75 g75 hbe75 hge75 hlt75 A75
                  have B75 := Lib.hid (B74.out.trans (hbe75.mono B74.out.size))
                  have hz75 := B74.out.size
                  have hy75 := hbe75.size
                  have P75 := Lib.hid (P74.out.below hbe75)
                  have R75 := A75
                  clear A75
                  clear hbe75
                  refine hK.out _ _ (range_below hR B75.out) (fun _ => ?_)
                  try simp only [Act.put, List.setIfInBounds_toArray, List.set_cons_zero, List.set_cons_succ]
                  clear hK K
                  refine wpAnyH_ready (rs := [9]) (by kernel_rfl) (by simp) ?_
                  refine AllReadyH.cons rfl (fun K hK => ?_) AllReadyH.nil
                  · rw [if_pos (by rfl)]
                    refine wp_st (.tmp 7) (.tmp 25) rfl rfl g73 zeros (T (l.take m)) P75.out (by simp [zeros]) (T_len _) rfl rfl ?_
                    intro U76 P76 hc76
                    have B76 := Lib.hid (Chg.below B75.out B75.out.size (by omega) hc76)
                    have hyy76 := (Array.getElem?_eq_some_iff.1 R75.out).1
                    have R76 := Lib.hid ((hc76.block g75 hyy76 (by omega)).trans R75.out)
                    clear hc76
                    refine hK.out _ _ (range_below hR B76.out) (fun _ => ?_)
                    try simp only [Act.put, List.setIfInBounds_toArray, List.set_cons_zero, List.set_cons_succ]
                    clear hK K
                    refine wpAnyH_ready (rs := [10]) (by kernel_rfl) (by simp) ?_
                    refine AllReadyH.cons rfl (fun K hK => ?_) AllReadyH.nil
                    · rw [if_pos (by rfl)]
                      refine wp_st (.tmp 8) (.tmp 28) rfl rfl g75 zeros (T [d]) R76.out (by simp [zeros]) (T_len _) rfl rfl ?_
                      intro U77 R77 hc77
                      have B77 := Lib.hid (Chg.below B76.out B76.out.size (by omega) hc77)
                      have hyy77 := (Array.getElem?_eq_some_iff.1 P76.out).1
                      have P77 := Lib.hid ((hc77.block g73 hyy77 (by omega)).trans P76.out)
                      clear hc77
                      refine hK.out _ _ (range_below hR B77.out) (fun _ => ?_)
                      try simp only [Act.put, List.setIfInBounds_toArray, List.set_cons_zero, List.set_cons_succ]
                      clear hK K
                      refine wpAnyH_done (by kernel_rfl) ?_ _
                      have BF := B77
                      have F7 := P77
                      have F8 := R77
                      go_wp2_with fail
                      go_meet
                      case rel => exact ⟨g73, g75, rfl, rfl, F7, F8, BF⟩
              · rw [if_pos (by rfl)]
                refine wp_al rfl rfl ?_
                intro U78 g78 hbe78 hge78 hlt78 A78
                have B78 := Lib.hid (B73.out.trans (hbe78.mono B73.out.size))
                have hz78 := B73.out.size
                have hy78 := hbe78.size
                have L78 := Lib.hid (L73.out.below hbe78)
                have P78 := Lib.hid (P73.out.below hbe78)
                have R78 := A78
                clear A78
                clear hbe78
                refine hK.out _ _ (range_below hR B78.out) (fun _ => ?_)
                try simp only [Act.put, List.setIfInBounds_toArray, List.set_cons_zero, List.set_cons_succ]
                clear hK K
                refine wpAnyH_ready (rs := [6]) (by kernel_rfl) (by simp) ?_
                refine AllReadyH.cons rfl (fun K hK => ?_) AllReadyH.nil
                · rw [if_pos (by rfl)]
                  go_simp
                  go_at_call 17
                  refine (CB.out U78 g62 B78.out L78.out).mono ?_
                  rintro e U79 ⟨rfl, hbe79⟩
                  have B79 := Lib.hid (B78.out.trans (hbe79.mono B78.out.size))
                  have hz79 := B78.out.size
                  have hy79 := hbe79.size
                  have L79 := Lib.hid (L78.out.below hbe79)
                  have P79 := Lib.hid (P78.out.below hbe79)
                  have R79 := Lib.hid (R78.out.below hbe79)
                  clear hbe79
                  refine hK.out _ _ (range_below hR B79.out) (fun _ => ?_)
                  try simp only [Act.put, List.setIfInBounds_toArray, List.set_cons_zero, List.set_cons_succ]
                  clear hK K
                  refine wpAnyH_ready (rs := [9]) (by kernel_rfl) (by simp) ?_
                  refine AllReadyH.cons rfl (fun K hK => ?_) AllReadyH.nil
                  · rw [if_pos (by rfl)]
                    refine wp_st (.tmp 7) (.tmp 25) rfl rfl g73 zeros (T (l.take m)) P79.out (by simp [zeros]) (T_len _) rfl rfl ?_
                    intro U80 P80 hc80
                    have B80 := Lib.hid (Chg.below B79.out B79.out.size (by omega) hc80)
                    have hyy80 := (Array.getElem?_eq_some_iff.1 R79.out).1
                    have R80 := Lib.hid ((hc80.block g78 hyy80 (by omega)).trans R79.out)
                    clear hc80
                    refine hK.out _ _ (range_below hR B80.out) (fun _ => ?_)
                    try simp only [Act.put, List.setIfInBounds_toArray, List.set_cons_zero, List.set_cons_succ]
                    clear hK K
                    refine wpAnyH_ready (rs := [10]) (by kernel_rfl) (by simp) ?_
                    refine AllReadyH.cons rfl (fun K hK => ?_) AllReadyH.nil
                    · rw [if_pos (by rfl)]
                      refine wp_st (.tmp 8) (.tmp 28) rfl rfl g78 zeros (T [d]) R80.out (by simp [zeros]) (T_len _) rfl rfl ?_
                      intro U81 R81 hc81
                      have B81 := Lib.hid (Chg.below B80.out B80.out.size (by omega) hc81)
                      have hyy81 := (Array.getElem?_eq_some_iff.1 P80.out).1
                      have P81 := Lib.hid ((hc81.block g73 hyy81 (by omega)).trans P80.out)
                      clear hc81
                      refine hK.out _ _ (range_below hR B81.out) (fun _ => ?_)
                      try simp only [Act.put, List.setIfInBounds_toArray, List.set_cons_zero, List.set_cons_succ]
                      clear hK K
                      refine wpAnyH_done (by kernel_rfl) ?_ _
                      have BF := B81
                      have F7 := P81
                      have F8 := R81
                      go_wp2_with fail
                      go_meet
                      case rel => exact ⟨g73, g78, rfl, rfl, F7, F8, BF⟩
            · rw [if_pos (by rfl)]
              refine wp_al rfl rfl ?_
              intro U82 g82 hbe82 hge82 hlt82 A82
              have B82 := Lib.hid (B63.out.trans (hbe82.mono B63.out.size))
              have hz82 := B63.out.size
              have hy82 := hbe82.size
              have L82 := Lib.hid (L63.out.below hbe82)
              have R82 := A82
              clear A82
              clear hbe82
              refine hK.out _ _ (range_below hR B82.out) (fun _ => ?_)
              try simp only [Act.put, List.setIfInBounds_toArray, List.set_cons_zero, List.set_cons_succ]
              clear hK K
              refine wpAnyH_ready (rs := [6, 7]) (by kernel_rfl) (by simp) ?_
              refine AllReadyH.cons rfl (fun K hK => ?_) (AllReadyH.cons rfl (fun K hK => ?_) AllReadyH.nil)
              · rw [if_pos (by rfl)]
                go_simp
                go_at_call 17
                refine (CB.out U82 g62 B82.out L82.out).mono ?_
                rintro e U83 ⟨rfl, hbe83⟩
                have B83 := Lib.hid (B82.out.trans (hbe83.mono B82.out.size))
                have hz83 := B82.out.size
                have hy83 := hbe83.size
                have L83 := Lib.hid (L82.out.below hbe83)
                have R83 := Lib.hid (R82.out.below hbe83)
                clear hbe83
                refine hK.out _ _ (range_below hR B83.out) (fun _ => ?_)
                try simp only [Act.put, List.setIfInBounds_toArray, List.set_cons_zero, List.set_cons_succ]
                clear hK K
                refine wpAnyH_ready (rs := [7]) (by kernel_rfl) (by simp) ?_
                refine AllReadyH.cons rfl (fun K hK => ?_) AllReadyH.nil
                · rw [if_pos (by rfl)]
                  refine wp_al rfl rfl ?_
                  intro U84 g84 hbe84 hge84 hlt84 A84
                  have B84 := Lib.hid (B83.out.trans (hbe84.mono B83.out.size))
                  have hz84 := B83.out.size
                  have hy84 := hbe84.size
                  have R84 := Lib.hid (R83.out.below hbe84)
                  have P84 := A84
                  clear A84
                  clear hbe84
                  refine hK.out _ _ (range_below hR B84.out) (fun _ => ?_)
                  try simp only [Act.put, List.setIfInBounds_toArray, List.set_cons_zero, List.set_cons_succ]
                  clear hK K
                  refine wpAnyH_ready (rs := [9]) (by kernel_rfl) (by simp) ?_
                  refine AllReadyH.cons rfl (fun K hK => ?_) AllReadyH.nil
                  · rw [if_pos (by rfl)]
                    refine wp_st (.tmp 7) (.tmp 25) rfl rfl g84 zeros (T (l.take m)) P84.out (by simp [zeros]) (T_len _) rfl rfl ?_
                    intro U85 P85 hc85
                    have B85 := Lib.hid (Chg.below B84.out B84.out.size (by omega) hc85)
                    have hyy85 := (Array.getElem?_eq_some_iff.1 R84.out).1
                    have R85 := Lib.hid ((hc85.block g82 hyy85 (by omega)).trans R84.out)
                    clear hc85
                    refine hK.out _ _ (range_below hR B85.out) (fun _ => ?_)
                    try simp only [Act.put, List.setIfInBounds_toArray, List.set_cons_zero, List.set_cons_succ]
                    clear hK K
                    refine wpAnyH_ready (rs := [10]) (by kernel_rfl) (by simp) ?_
                    refine AllReadyH.cons rfl (fun K hK => ?_) AllReadyH.nil
                    · rw [if_pos (by rfl)]
                      refine wp_st (.tmp 8) (.tmp 28) rfl rfl g82 zeros (T [d]) R85.out (by simp [zeros]) (T_len _) rfl rfl ?_
                      intro U86 R86 hc86
                      have B86 := Lib.hid (Chg.below B85.out B85.out.size (by omega) hc86)
                      have hyy86 := (Array.getElem?_eq_some_iff.1 P85.out).1
                      have P86 := Lib.hid ((hc86.block g84 hyy86 (by omega)).trans P85.out)
                      clear hc86
                      refine hK.out _ _ (range_below hR B86.out) (fun _ => ?_)
                      try simp only [Act.put, List.setIfInBounds_toArray, List.set_cons_zero, List.set_cons_succ]
                      clear hK K
                      refine wpAnyH_done (by kernel_rfl) ?_ _
                      have BF := B86
                      have F7 := P86
                      have F8 := R86
                      go_wp2_with fail
                      go_meet
                      case rel => exact ⟨g84, g82, rfl, rfl, F7, F8, BF⟩
              · rw [if_pos (by rfl)]
                refine wp_al rfl rfl ?_
                intro U87 g87 hbe87 hge87 hlt87 A87
                have B87 := Lib.hid (B82.out.trans (hbe87.mono B82.out.size))
                have hz87 := B82.out.size
                have hy87 := hbe87.size
                have L87 := Lib.hid (L82.out.below hbe87)
                have R87 := Lib.hid (R82.out.below hbe87)
                have P87 := A87
                clear A87
                clear hbe87
                refine hK.out _ _ (range_below hR B87.out) (fun _ => ?_)
                try simp only [Act.put, List.setIfInBounds_toArray, List.set_cons_zero, List.set_cons_succ]
                clear hK K
                refine wpAnyH_ready (rs := [6]) (by kernel_rfl) (by simp) ?_
                refine AllReadyH.cons rfl (fun K hK => ?_) AllReadyH.nil
                · rw [if_pos (by rfl)]
                  go_simp
                  go_at_call 17
                  refine (CB.out U87 g62 B87.out L87.out).mono ?_
                  rintro e U88 ⟨rfl, hbe88⟩
                  have B88 := Lib.hid (B87.out.trans (hbe88.mono B87.out.size))
                  have hz88 := B87.out.size
                  have hy88 := hbe88.size
                  have L88 := Lib.hid (L87.out.below hbe88)
                  have P88 := Lib.hid (P87.out.below hbe88)
                  have R88 := Lib.hid (R87.out.below hbe88)
                  clear hbe88
                  refine hK.out _ _ (range_below hR B88.out) (fun _ => ?_)
                  try simp only [Act.put, List.setIfInBounds_toArray, List.set_cons_zero, List.set_cons_succ]
                  clear hK K
                  refine wpAnyH_ready (rs := [9]) (by kernel_rfl) (by simp) ?_
                  refine AllReadyH.cons rfl (fun K hK => ?_) AllReadyH.nil
                  · rw [if_pos (by rfl)]
                    refine wp_st (.tmp 7) (.tmp 25) rfl rfl g87 zeros (T (l.take m)) P88.out (by simp [zeros]) (T_len _) rfl rfl ?_
                    intro U89 P89 hc89
                    have B89 := Lib.hid (Chg.below B88.out B88.out.size (by omega) hc89)
                    have hyy89 := (Array.getElem?_eq_some_iff.1 R88.out).1
                    have R89 := Lib.hid ((hc89.block g82 hyy89 (by omega)).trans R88.out)
                    clear hc89
                    refine hK.out _ _ (range_below hR B89.out) (fun _ => ?_)
                    try simp only [Act.put, List.setIfInBounds_toArray, List.set_cons_zero, List.set_cons_succ]
                    clear hK K
                    refine wpAnyH_ready (rs := [10]) (by kernel_rfl) (by simp) ?_
                    refine AllReadyH.cons rfl (fun K hK => ?_) AllReadyH.nil
                    · rw [if_pos (by rfl)]
                      refine wp_st (.tmp 8) (.tmp 28) rfl rfl g82 zeros (T [d]) R89.out (by simp [zeros]) (T_len _) rfl rfl ?_
                      intro U90 R90 hc90
                      have B90 := Lib.hid (Chg.below B89.out B89.out.size (by omega) hc90)
                      have hyy90 := (Array.getElem?_eq_some_iff.1 P89.out).1
                      have P90 := Lib.hid ((hc90.block g87 hyy90 (by omega)).trans P89.out)
                      clear hc90
                      refine hK.out _ _ (range_below hR B90.out) (fun _ => ?_)
                      try simp only [Act.put, List.setIfInBounds_toArray, List.set_cons_zero, List.set_cons_succ]
                      clear hK K
                      refine wpAnyH_done (by kernel_rfl) ?_ _
                      have BF := B90
                      have F7 := P90
                      have F8 := R90
                      go_wp2_with fail
                      go_meet
                      case rel => exact ⟨g87, g82, rfl, rfl, F7, F8, BF⟩
          · rw [if_pos (by rfl)]
            refine wp_al rfl rfl ?_
            intro U91 g91 hbe91 hge91 hlt91 A91
            have B91 := Lib.hid (B62.out.trans (hbe91.mono B62.out.size))
            have hz91 := B62.out.size
            have hy91 := hbe91.size
            have L91 := Lib.hid (L62.out.below hbe91)
            have P91 := A91
            clear A91
            clear hbe91
            refine hK.out _ _ (range_below hR B91.out) (fun _ => ?_)
            try simp only [Act.put, List.setIfInBounds_toArray, List.set_cons_zero, List.set_cons_succ]
            clear hK K
            refine wpAnyH_ready (rs := [3, 8]) (by kernel_rfl) (by simp) ?_
            refine AllReadyH.cons rfl (fun K hK => ?_) (AllReadyH.cons rfl (fun K hK => ?_) AllReadyH.nil)
            · rw [if_pos (by rfl)]
              go_simp
              go_at_call 17
              refine (CA.out U91 B91.out).mono ?_
              rintro e U92 ⟨rfl, hbe92⟩
              have B92 := Lib.hid (B91.out.trans (hbe92.mono B91.out.size))
              have hz92 := B91.out.size
              have hy92 := hbe92.size
              have L92 := Lib.hid (L91.out.below hbe92)
              have P92 := Lib.hid (P91.out.below hbe92)
              clear hbe92
              refine hK.out _ _ (range_below hR B92.out) (fun _ => ?_)
              try simp only [Act.put, List.setIfInBounds_toArray, List.set_cons_zero, List.set_cons_succ]
              clear hK K
              refine wpAnyH_ready (rs := [6, 8]) (by kernel_rfl) (by simp) ?_
              refine AllReadyH.cons rfl (fun K hK => ?_) (AllReadyH.cons rfl (fun K hK => ?_) AllReadyH.nil)
              · rw [if_pos (by rfl)]
                go_simp
                go_at_call 17
                refine (CB.out U92 g62 B92.out L92.out).mono ?_
                rintro e U93 ⟨rfl, hbe93⟩
                have B93 := Lib.hid (B92.out.trans (hbe93.mono B92.out.size))
                have hz93 := B92.out.size
                have hy93 := hbe93.size
                have L93 := Lib.hid (L92.out.below hbe93)
                have P93 := Lib.hid (P92.out.below hbe93)
                clear hbe93
                refine hK.out _ _ (range_below hR B93.out) (fun _ => ?_)
                try simp only [Act.put, List.setIfInBounds_toArray, List.set_cons_zero, List.set_cons_succ]
                clear hK K
                refine wpAnyH_ready (rs := [8]) (by kernel_rfl) (by simp) ?_
                refine AllReadyH.cons rfl (fun K hK => ?_) AllReadyH.nil
                · rw [if_pos (by rfl)]
                  refine wp_al rfl rfl ?_
                  intro U94 g94 hbe94 hge94 hlt94 A94
                  have B94 := Lib.hid (B93.out.trans (hbe94.mono B93.out.size))
                  have hz94 := B93.out.size
                  have hy94 := hbe94.size
                  have P94 := Lib.hid (P93.out.below hbe94)
                  have R94 := A94
                  clear A94
                  clear hbe94
                  refine hK.out _ _ (range_below hR B94.out) (fun _ => ?_)
                  try simp only [Act.put, List.setIfInBounds_toArray, List.set_cons_zero, List.set_cons_succ]
                  clear hK K
                  refine wpAnyH_ready (rs := [9]) (by kernel_rfl) (by simp) ?_
                  refine AllReadyH.cons rfl (fun K hK => ?_) AllReadyH.nil
                  · rw [if_pos (by rfl)]
                    refine wp_st (.tmp 7) (.tmp 25) rfl rfl g91 zeros (T (l.take m)) P94.out (by simp [zeros]) (T_len _) rfl rfl ?_
                    intro U95 P95 hc95
                    have B95 := Lib.hid (Chg.below B94.out B94.out.size (by omega) hc95)
                    have hyy95 := (Array.getElem?_eq_some_iff.1 R94.out).1
                    have R95 := Lib.hid ((hc95.block g94 hyy95 (by omega)).trans R94.out)
                    clear hc95
                    refine hK.out _ _ (range_below hR B95.out) (fun _ => ?_)
                    try simp only [Act.put, List.setIfInBounds_toArray, List.set_cons_zero, List.set_cons_succ]
                    clear hK K
                    refine wpAnyH_ready (rs := [10]) (by kernel_rfl) (by simp) ?_
                    refine AllReadyH.cons rfl (fun K hK => ?_) AllReadyH.nil
                    · rw [if_pos (by rfl)]
                      refine wp_st (.tmp 8) (.tmp 28) rfl rfl g94 zeros (T [d]) R95.out (by simp [zeros]) (T_len _) rfl rfl ?_
                      intro U96 R96 hc96
                      have B96 := Lib.hid (Chg.below B95.out B95.out.size (by omega) hc96)
                      have hyy96 := (Array.getElem?_eq_some_iff.1 P95.out).1
                      have P96 := Lib.hid ((hc96.block g91 hyy96 (by omega)).trans P95.out)
                      clear hc96
                      refine hK.out _ _ (range_below hR B96.out) (fun _ => ?_)
                      try simp only [Act.put, List.setIfInBounds_toArray, List.set_cons_zero, List.set_cons_succ]
                      clear hK K
                      refine wpAnyH_done (by kernel_rfl) ?_ _
                      have BF := B96
                      have F7 := P96
                      have F8 := R96
                      go_wp2_with fail
                      go_meet
                      case rel => exact ⟨g91, g94, rfl, rfl, F7, F8, BF⟩
              · rw [if_pos (by rfl)]
                refine wp_al rfl rfl ?_
                intro U97 g97 hbe97 hge97 hlt97 A97
                have B97 := Lib.hid (B92.out.trans (hbe97.mono B92.out.size))
                have hz97 := B92.out.size
                have hy97 := hbe97.size
                have L97 := Lib.hid (L92.out.below hbe97)
                have P97 := Lib.hid (P92.out.below hbe97)
                have R97 := A97
                clear A97
                clear hbe97
                refine hK.out _ _ (range_below hR B97.out) (fun _ => ?_)
                try simp only [Act.put, List.setIfInBounds_toArray, List.set_cons_zero, List.set_cons_succ]
                clear hK K
                refine wpAnyH_ready (rs := [6]) (by kernel_rfl) (by simp) ?_
                refine AllReadyH.cons rfl (fun K hK => ?_) AllReadyH.nil
                · rw [if_pos (by rfl)]
                  go_simp
                  go_at_call 17
                  refine (CB.out U97 g62 B97.out L97.out).mono ?_
                  rintro e U98 ⟨rfl, hbe98⟩
                  have B98 := Lib.hid (B97.out.trans (hbe98.mono B97.out.size))
                  have hz98 := B97.out.size
                  have hy98 := hbe98.size
                  have L98 := Lib.hid (L97.out.below hbe98)
                  have P98 := Lib.hid (P97.out.below hbe98)
                  have R98 := Lib.hid (R97.out.below hbe98)
                  clear hbe98
                  refine hK.out _ _ (range_below hR B98.out) (fun _ => ?_)
                  try simp only [Act.put, List.setIfInBounds_toArray, List.set_cons_zero, List.set_cons_succ]
                  clear hK K
                  refine wpAnyH_ready (rs := [9]) (by kernel_rfl) (by simp) ?_
                  refine AllReadyH.cons rfl (fun K hK => ?_) AllReadyH.nil
                  · rw [if_pos (by rfl)]
                    refine wp_st (.tmp 7) (.tmp 25) rfl rfl g91 zeros (T (l.take m)) P98.out (by simp [zeros]) (T_len _) rfl rfl ?_
                    intro U99 P99 hc99
                    have B99 := Lib.hid (Chg.below B98.out B98.out.size (by omega) hc99)
                    have hyy99 := (Array.getElem?_eq_some_iff.1 R98.out).1
                    have R99 := Lib.hid ((hc99.block g97 hyy99 (by omega)).trans R98.out)
                    clear hc99
                    refine hK.out _ _ (range_below hR B99.out) (fun _ => ?_)
                    try simp only [Act.put, List.setIfInBounds_toArray, List.set_cons_zero, List.set_cons_succ]
                    clear hK K
                    refine wpAnyH_ready (rs := [10]) (by kernel_rfl) (by simp) ?_
                    refine AllReadyH.cons rfl (fun K hK => ?_) AllReadyH.nil
                    · rw [if_pos (by rfl)]
                      refine wp_st (.tmp 8) (.tmp 28) rfl rfl g97 zeros (T [d]) R99.out (by simp [zeros]) (T_len _) rfl rfl ?_
                      intro U100 R100 hc100
                      have B100 := Lib.hid (Chg.below B99.out B99.out.size (by omega) hc100)
                      have hyy100 := (Array.getElem?_eq_some_iff.1 P99.out).1
                      have P100 := Lib.hid ((hc100.block g91 hyy100 (by omega)).trans P99.out)
                      clear hc100
                      refine hK.out _ _ (range_below hR B100.out) (fun _ => ?_)
                      try simp only [Act.put, List.setIfInBounds_toArray, List.set_cons_zero, List.set_cons_succ]
                      clear hK K
                      refine wpAnyH_done (by kernel_rfl) ?_ _
                      have BF := B100
                      have F7 := P100
                      have F8 := R100
                      go_wp2_with fail
                      go_meet
                      case rel => exact ⟨g91, g97, rfl, rfl, F7, F8, BF⟩
            · rw [if_pos (by rfl)]
              refine wp_al rfl rfl ?_
              intro U101 g101 hbe101 hge101 hlt101 A101
              have B101 := Lib.hid (B91.out.trans (hbe101.mono B91.out.size))
              have hz101 := B91.out.size
              have hy101 := hbe101.size
              have L101 := Lib.hid (L91.out.below hbe101)
              have P101 := Lib.hid (P91.out.below hbe101)
              have R101 := A101
              clear A101
              clear hbe101
              refine hK.out _ _ (range_below hR B101.out) (fun _ => ?_)
              try simp only [Act.put, List.setIfInBounds_toArray, List.set_cons_zero, List.set_cons_succ]
              clear hK K
              refine wpAnyH_ready (rs := [3]) (by kernel_rfl) (by simp) ?_
              refine AllReadyH.cons rfl (fun K hK => ?_) AllReadyH.nil
              · rw [if_pos (by rfl)]
                go_simp
                go_at_call 17
                refine (CA.out U101 B101.out).mono ?_
                rintro e U102 ⟨rfl, hbe102⟩
                have B102 := Lib.hid (B101.out.trans (hbe102.mono B101.out.size))
                have hz102 := B101.out.size
                have hy102 := hbe102.size
                have L102 := Lib.hid (L101.out.below hbe102)
                have P102 := Lib.hid (P101.out.below hbe102)
                have R102 := Lib.hid (R101.out.below hbe102)
                clear hbe102
                refine hK.out _ _ (range_below hR B102.out) (fun _ => ?_)
                try simp only [Act.put, List.setIfInBounds_toArray, List.set_cons_zero, List.set_cons_succ]
                clear hK K
                refine wpAnyH_ready (rs := [6]) (by kernel_rfl) (by simp) ?_
                refine AllReadyH.cons rfl (fun K hK => ?_) AllReadyH.nil
                · rw [if_pos (by rfl)]
                  go_simp
                  go_at_call 17
                  refine (CB.out U102 g62 B102.out L102.out).mono ?_
                  rintro e U103 ⟨rfl, hbe103⟩
                  have B103 := Lib.hid (B102.out.trans (hbe103.mono B102.out.size))
                  have hz103 := B102.out.size
                  have hy103 := hbe103.size
                  have L103 := Lib.hid (L102.out.below hbe103)
                  have P103 := Lib.hid (P102.out.below hbe103)
                  have R103 := Lib.hid (R102.out.below hbe103)
                  clear hbe103
                  refine hK.out _ _ (range_below hR B103.out) (fun _ => ?_)
                  try simp only [Act.put, List.setIfInBounds_toArray, List.set_cons_zero, List.set_cons_succ]
                  clear hK K
                  refine wpAnyH_ready (rs := [9]) (by kernel_rfl) (by simp) ?_
                  refine AllReadyH.cons rfl (fun K hK => ?_) AllReadyH.nil
                  · rw [if_pos (by rfl)]
                    refine wp_st (.tmp 7) (.tmp 25) rfl rfl g91 zeros (T (l.take m)) P103.out (by simp [zeros]) (T_len _) rfl rfl ?_
                    intro U104 P104 hc104
                    have B104 := Lib.hid (Chg.below B103.out B103.out.size (by omega) hc104)
                    have hyy104 := (Array.getElem?_eq_some_iff.1 R103.out).1
                    have R104 := Lib.hid ((hc104.block g101 hyy104 (by omega)).trans R103.out)
                    clear hc104
                    refine hK.out _ _ (range_below hR B104.out) (fun _ => ?_)
                    try simp only [Act.put, List.setIfInBounds_toArray, List.set_cons_zero, List.set_cons_succ]
                    clear hK K
                    refine wpAnyH_ready (rs := [10]) (by kernel_rfl) (by simp) ?_
                    refine AllReadyH.cons rfl (fun K hK => ?_) AllReadyH.nil
                    · rw [if_pos (by rfl)]
                      refine wp_st (.tmp 8) (.tmp 28) rfl rfl g101 zeros (T [d]) R104.out (by simp [zeros]) (T_len _) rfl rfl ?_
                      intro U105 R105 hc105
                      have B105 := Lib.hid (Chg.below B104.out B104.out.size (by omega) hc105)
                      have hyy105 := (Array.getElem?_eq_some_iff.1 P104.out).1
                      have P105 := Lib.hid ((hc105.block g91 hyy105 (by omega)).trans P104.out)
                      clear hc105
                      refine hK.out _ _ (range_below hR B105.out) (fun _ => ?_)
                      try simp only [Act.put, List.setIfInBounds_toArray, List.set_cons_zero, List.set_cons_succ]
                      clear hK K
                      refine wpAnyH_done (by kernel_rfl) ?_ _
                      have BF := B105
                      have F7 := P105
                      have F8 := R105
                      go_wp2_with fail
                      go_meet
                      case rel => exact ⟨g91, g101, rfl, rfl, F7, F8, BF⟩
          · rw [if_pos (by rfl)]
            refine wp_al rfl rfl ?_
            intro U106 g106 hbe106 hge106 hlt106 A106
            have B106 := Lib.hid (B62.out.trans (hbe106.mono B62.out.size))
            have hz106 := B62.out.size
            have hy106 := hbe106.size
            have L106 := Lib.hid (L62.out.below hbe106)
            have R106 := A106
            clear A106
            clear hbe106
            refine hK.out _ _ (range_below hR B106.out) (fun _ => ?_)
            try simp only [Act.put, List.setIfInBounds_toArray, List.set_cons_zero, List.set_cons_succ]
            clear hK K
            refine wpAnyH_ready (rs := [3, 7]) (by kernel_rfl) (by simp) ?_
            refine AllReadyH.cons rfl (fun K hK => ?_) (AllReadyH.cons rfl (fun K hK => ?_) AllReadyH.nil)
            · rw [if_pos (by rfl)]
              go_simp
              go_at_call 17
              refine (CA.out U106 B106.out).mono ?_
              rintro e U107 ⟨rfl, hbe107⟩
              have B107 := Lib.hid (B106.out.trans (hbe107.mono B106.out.size))
              have hz107 := B106.out.size
              have hy107 := hbe107.size
              have L107 := Lib.hid (L106.out.below hbe107)
              have R107 := Lib.hid (R106.out.below hbe107)
              clear hbe107
              refine hK.out _ _ (range_below hR B107.out) (fun _ => ?_)
              try simp only [Act.put, List.setIfInBounds_toArray, List.set_cons_zero, List.set_cons_succ]
              clear hK K
              refine wpAnyH_ready (rs := [6, 7]) (by kernel_rfl) (by simp) ?_
              refine AllReadyH.cons rfl (fun K hK => ?_) (AllReadyH.cons rfl (fun K hK => ?_) AllReadyH.nil)
              · rw [if_pos (by rfl)]
                go_simp
                go_at_call 17
                refine (CB.out U107 g62 B107.out L107.out).mono ?_
                rintro e U108 ⟨rfl, hbe108⟩
                have B108 := Lib.hid (B107.out.trans (hbe108.mono B107.out.size))
                have hz108 := B107.out.size
                have hy108 := hbe108.size
                have L108 := Lib.hid (L107.out.below hbe108)
                have R108 := Lib.hid (R107.out.below hbe108)
                clear hbe108
                refine hK.out _ _ (range_below hR B108.out) (fun _ => ?_)
                try simp only [Act.put, List.setIfInBounds_toArray, List.set_cons_zero, List.set_cons_succ]
                clear hK K
                refine wpAnyH_ready (rs := [7]) (by kernel_rfl) (by simp) ?_
                refine AllReadyH.cons rfl (fun K hK => ?_) AllReadyH.nil
                · rw [if_pos (by rfl)]
                  refine wp_al rfl rfl ?_
                  intro U109 g109 hbe109 hge109 hlt109 A109
                  have B109 := Lib.hid (B108.out.trans (hbe109.mono B108.out.size))
                  have hz109 := B108.out.size
                  have hy109 := hbe109.size
                  have R109 := Lib.hid (R108.out.below hbe109)
                  have P109 := A109
                  clear A109
                  clear hbe109
                  refine hK.out _ _ (range_below hR B109.out) (fun _ => ?_)
                  try simp only [Act.put, List.setIfInBounds_toArray, List.set_cons_zero, List.set_cons_succ]
                  clear hK K
                  refine wpAnyH_ready (rs := [9]) (by kernel_rfl) (by simp) ?_
                  refine AllReadyH.cons rfl (fun K hK => ?_) AllReadyH.nil
                  · rw [if_pos (by rfl)]
                    refine wp_st (.tmp 7) (.tmp 25) rfl rfl g109 zeros (T (l.take m)) P109.out (by simp [zeros]) (T_len _) rfl rfl ?_
                    intro U110 P110 hc110
                    have B110 := Lib.hid (Chg.below B109.out B109.out.size (by omega) hc110)
                    have hyy110 := (Array.getElem?_eq_some_iff.1 R109.out).1
                    have R110 := Lib.hid ((hc110.block g106 hyy110 (by omega)).trans R109.out)
                    clear hc110
                    refine hK.out _ _ (range_below hR B110.out) (fun _ => ?_)
                    try simp only [Act.put, List.setIfInBounds_toArray, List.set_cons_zero, List.set_cons_succ]
                    clear hK K
                    refine wpAnyH_ready (rs := [10]) (by kernel_rfl) (by simp) ?_
                    refine AllReadyH.cons rfl (fun K hK => ?_) AllReadyH.nil
                    · rw [if_pos (by rfl)]
                      refine wp_st (.tmp 8) (.tmp 28) rfl rfl g106 zeros (T [d]) R110.out (by simp [zeros]) (T_len _) rfl rfl ?_
                      intro U111 R111 hc111
                      have B111 := Lib.hid (Chg.below B110.out B110.out.size (by omega) hc111)
                      have hyy111 := (Array.getElem?_eq_some_iff.1 P110.out).1
                      have P111 := Lib.hid ((hc111.block g109 hyy111 (by omega)).trans P110.out)
                      clear hc111
                      refine hK.out _ _ (range_below hR B111.out) (fun _ => ?_)
                      try simp only [Act.put, List.setIfInBounds_toArray, List.set_cons_zero, List.set_cons_succ]
                      clear hK K
                      refine wpAnyH_done (by kernel_rfl) ?_ _
                      have BF := B111
                      have F7 := P111
                      have F8 := R111
                      go_wp2_with fail
                      go_meet
                      case rel => exact ⟨g109, g106, rfl, rfl, F7, F8, BF⟩
              · rw [if_pos (by rfl)]
                refine wp_al rfl rfl ?_
                intro U112 g112 hbe112 hge112 hlt112 A112
                have B112 := Lib.hid (B107.out.trans (hbe112.mono B107.out.size))
                have hz112 := B107.out.size
                have hy112 := hbe112.size
                have L112 := Lib.hid (L107.out.below hbe112)
                have R112 := Lib.hid (R107.out.below hbe112)
                have P112 := A112
                clear A112
                clear hbe112
                refine hK.out _ _ (range_below hR B112.out) (fun _ => ?_)
                try simp only [Act.put, List.setIfInBounds_toArray, List.set_cons_zero, List.set_cons_succ]
                clear hK K
                refine wpAnyH_ready (rs := [6]) (by kernel_rfl) (by simp) ?_
                refine AllReadyH.cons rfl (fun K hK => ?_) AllReadyH.nil
                · rw [if_pos (by rfl)]
                  go_simp
                  go_at_call 17
                  refine (CB.out U112 g62 B112.out L112.out).mono ?_
                  rintro e U113 ⟨rfl, hbe113⟩
                  have B113 := Lib.hid (B112.out.trans (hbe113.mono B112.out.size))
                  have hz113 := B112.out.size
                  have hy113 := hbe113.size
                  have L113 := Lib.hid (L112.out.below hbe113)
                  have P113 := Lib.hid (P112.out.below hbe113)
                  have R113 := Lib.hid (R112.out.below hbe113)
                  clear hbe113
                  refine hK.out _ _ (range_below hR B113.out) (fun _ => ?_)
                  try simp only [Act.put, List.setIfInBounds_toArray, List.set_cons_zero, List.set_cons_succ]
                  clear hK K
                  refine wpAnyH_ready (rs := [9]) (by kernel_rfl) (by simp) ?_
                  refine AllReadyH.cons rfl (fun K hK => ?_) AllReadyH.nil
                  · rw [if_pos (by rfl)]
                    refine wp_st (.tmp 7) (.tmp 25) rfl rfl g112 zeros (T (l.take m)) P113.out (by simp [zeros]) (T_len _) rfl rfl ?_
                    intro U114 P114 hc114
                    have B114 := Lib.hid (Chg.below B113.out B113.out.size (by omega) hc114)
                    have hyy114 := (Array.getElem?_eq_some_iff.1 R113.out).1
                    have R114 := Lib.hid ((hc114.block g106 hyy114 (by omega)).trans R113.out)
                    clear hc114
                    refine hK.out _ _ (range_below hR B114.out) (fun _ => ?_)
                    try simp only [Act.put, List.setIfInBounds_toArray, List.set_cons_zero, List.set_cons_succ]
                    clear hK K
                    refine wpAnyH_ready (rs := [10]) (by kernel_rfl) (by simp) ?_
                    refine AllReadyH.cons rfl (fun K hK => ?_) AllReadyH.nil
                    · rw [if_pos (by rfl)]
                      refine wp_st (.tmp 8) (.tmp 28) rfl rfl g106 zeros (T [d]) R114.out (by simp [zeros]) (T_len _) rfl rfl ?_
                      intro U115 R115 hc115
                      have B115 := Lib.hid (Chg.below B114.out B114.out.size (by omega) hc115)
                      have hyy115 := (Array.getElem?_eq_some_iff.1 P114.out).1
                      have P115 := Lib.hid ((hc115.block g112 hyy115 (by omega)).trans P114.out)
                      clear hc115
                      refine hK.out _ _ (range_below hR B115.out) (fun _ => ?_)
                      try simp only [Act.put, List.setIfInBounds_toArray, List.set_cons_zero, List.set_cons_succ]
                      clear hK K
                      refine wpAnyH_done (by kernel_rfl) ?_ _
                      have BF := B115
                      have F7 := P115
                      have F8 := R115
                      go_wp2_with fail
                      go_meet
                      case rel => exact ⟨g112, g106, rfl, rfl, F7, F8, BF⟩
            · rw [if_pos (by rfl)]
              refine wp_al rfl rfl ?_
              intro U116 g116 hbe116 hge116 hlt116 A116
              have B116 := Lib.hid (B106.out.trans (hbe116.mono B106.out.size))
              have hz116 := B106.out.size
              have hy116 := hbe116.size
              have L116 := Lib.hid (L106.out.below hbe116)
              have R116 := Lib.hid (R106.out.below hbe116)
              have P116 := A116
              clear A116
              clear hbe116
              refine hK.out _ _ (range_below hR B116.out) (fun _ => ?_)
              try simp only [Act.put, List.setIfInBounds_toArray, List.set_cons_zero, List.set_cons_succ]
              clear hK K
              refine wpAnyH_ready (rs := [3]) (by kernel_rfl) (by simp) ?_
              refine AllReadyH.cons rfl (fun K hK => ?_) AllReadyH.nil
              · rw [if_pos (by rfl)]
                go_simp
                go_at_call 17
                refine (CA.out U116 B116.out).mono ?_
                rintro e U117 ⟨rfl, hbe117⟩
                have B117 := Lib.hid (B116.out.trans (hbe117.mono B116.out.size))
                have hz117 := B116.out.size
                have hy117 := hbe117.size
                have L117 := Lib.hid (L116.out.below hbe117)
                have P117 := Lib.hid (P116.out.below hbe117)
                have R117 := Lib.hid (R116.out.below hbe117)
                clear hbe117
                refine hK.out _ _ (range_below hR B117.out) (fun _ => ?_)
                try simp only [Act.put, List.setIfInBounds_toArray, List.set_cons_zero, List.set_cons_succ]
                clear hK K
                refine wpAnyH_ready (rs := [6]) (by kernel_rfl) (by simp) ?_
                refine AllReadyH.cons rfl (fun K hK => ?_) AllReadyH.nil
                · rw [if_pos (by rfl)]
                  go_simp
                  go_at_call 17
                  refine (CB.out U117 g62 B117.out L117.out).mono ?_
                  rintro e U118 ⟨rfl, hbe118⟩
                  have B118 := Lib.hid (B117.out.trans (hbe118.mono B117.out.size))
                  have hz118 := B117.out.size
                  have hy118 := hbe118.size
                  have L118 := Lib.hid (L117.out.below hbe118)
                  have P118 := Lib.hid (P117.out.below hbe118)
                  have R118 := Lib.hid (R117.out.below hbe118)
                  clear hbe118
                  refine hK.out _ _ (range_below hR B118.out) (fun _ => ?_)
                  try simp only [Act.put, List.setIfInBounds_toArray, List.set_cons_zero, List.set_cons_succ]
                  clear hK K
                  refine wpAnyH_ready (rs := [9]) (by kernel_rfl) (by simp) ?_
                  refine AllReadyH.cons rfl (fun K hK => ?_) AllReadyH.nil
                  · rw [if_pos (by rfl)]
                    refine wp_st (.tmp 7) (.tmp 25) rfl rfl g116 zeros (T (l.take m)) P118.out (by simp [zeros]) (T_len _) rfl rfl ?_
                    intro U119 P119 hc119
                    have B119 := Lib.hid (Chg.below B118.out B118.out.size (by omega) hc119)
                    have hyy119 := (Array.getElem?_eq_some_iff.1 R118.out).1
                    have R119 := Lib.hid ((hc119.block g106 hyy119 (by omega)).trans R118.out)
                    clear hc119
                    refine hK.out _ _ (range_below hR B119.out) (fun _ => ?_)
                    try simp only [Act.put, List.setIfInBounds_toArray, List.set_cons_zero, List.set_cons_succ]
                    clear hK K
                    refine wpAnyH_ready (rs := [10]) (by kernel_rfl) (by simp) ?_
                    refine AllReadyH.cons rfl (fun K hK => ?_) AllReadyH.nil
                    · rw [if_pos (by rfl)]
                      refine wp_st (.tmp 8) (.tmp 28) rfl rfl g106 zeros (T [d]) R119.out (by simp [zeros]) (T_len _) rfl rfl ?_
                      intro U120 R120 hc120
                      have B120 := Lib.hid (Chg.below B119.out B119.out.size (by omega) hc120)
                      have hyy120 := (Array.getElem?_eq_some_iff.1 P119.out).1
                      have P120 := Lib.hid ((hc120.block g116 hyy120 (by omega)).trans P119.out)
                      clear hc120
                      refine hK.out _ _ (range_below hR B120.out) (fun _ => ?_)
                      try simp only [Act.put, List.setIfInBounds_toArray, List.set_cons_zero, List.set_cons_succ]
                      clear hK K
                      refine wpAnyH_done (by kernel_rfl) ?_ _
                      have BF := B120
                      have F7 := P120
                      have F8 := R120
                      go_wp2_with fail
                      go_meet
                      case rel => exact ⟨g116, g106, rfl, rfl, F7, F8, BF⟩
        · rw [if_pos (by rfl)]
          refine wp_al rfl rfl ?_
          intro U121 g121 hbe121 hge121 hlt121 A121
          have B121 := Lib.hid (B2.out.trans (hbe121.mono B2.out.size))
          have hz121 := B2.out.size
          have hy121 := hbe121.size
          have P121 := A121
          clear A121
          clear hbe121
          refine hK.out _ _ (range_below hR B121.out) (fun _ => ?_)
          try simp only [Act.put, List.setIfInBounds_toArray, List.set_cons_zero, List.set_cons_succ]
          clear hK K
          refine wpAnyH_ready (rs := [3, 5, 8]) (by kernel_rfl) (by simp) ?_
          refine AllReadyH.cons rfl (fun K hK => ?_) (AllReadyH.cons rfl (fun K hK => ?_) (AllReadyH.cons rfl (fun K hK => ?_) AllReadyH.nil))
          · rw [if_pos (by rfl)]
            go_simp
            go_at_call 17
            refine (CA.out U121 B121.out).mono ?_
            rintro e U122 ⟨rfl, hbe122⟩
            have B122 := Lib.hid (B121.out.trans (hbe122.mono B121.out.size))
            have hz122 := B121.out.size
            have hy122 := hbe122.size
            have P122 := Lib.hid (P121.out.below hbe122)
            clear hbe122
            refine hK.out _ _ (range_below hR B122.out) (fun _ => ?_)
            try simp only [Act.put, List.setIfInBounds_toArray, List.set_cons_zero, List.set_cons_succ]
            clear hK K
            refine wpAnyH_ready (rs := [5, 8]) (by kernel_rfl) (by simp) ?_
            refine AllReadyH.cons rfl (fun K hK => ?_) (AllReadyH.cons rfl (fun K hK => ?_) AllReadyH.nil)
            · rw [if_pos (by rfl)]
              refine wp_b1 rfl 26 rfl d rfl HD32.out ?_
              intro U123 g123 hbe123 hge123 hlt123 L123x
              have B123 := Lib.hid (B122.out.trans (hbe123.mono B122.out.size))
              have hz123 := B122.out.size
              have hy123 := hbe123.size
              have P123 := Lib.hid (P122.out.below hbe123)
              have L123 := L123x
              clear L123x
              clear hbe123
              refine hK.out _ _ (range_below hR B123.out) (fun _ => ?_)
              try simp only [Act.put, List.setIfInBounds_toArray, List.set_cons_zero, List.set_cons_succ]
              clear hK K
              refine wpAnyH_ready (rs := [6, 8]) (by kernel_rfl) (by simp) ?_
              refine AllReadyH.cons rfl (fun K hK => ?_) (AllReadyH.cons rfl (fun K hK => ?_) AllReadyH.nil)
              · rw [if_pos (by rfl)]
                go_simp
                go_at_call 17
                refine (CB.out U123 g123 B123.out L123.out).mono ?_
                rintro e U124 ⟨rfl, hbe124⟩
                have B124 := Lib.hid (B123.out.trans (hbe124.mono B123.out.size))
                have hz124 := B123.out.size
                have hy124 := hbe124.size
                have L124 := Lib.hid (L123.out.below hbe124)
                have P124 := Lib.hid (P123.out.below hbe124)
                clear hbe124
                refine hK.out _ _ (range_below hR B124.out) (fun _ => ?_)
                try simp only [Act.put, List.setIfInBounds_toArray, List.set_cons_zero, List.set_cons_succ]
                clear hK K
                refine wpAnyH_ready (rs := [8]) (by kernel_rfl) (by simp) ?_
                refine AllReadyH.cons rfl (fun K hK => ?_) AllReadyH.nil
                · rw [if_pos (by rfl)]
                  refine wp_al rfl rfl ?_
                  intro U125 g125 hbe125 hge125 hlt125 A125
                  have B125 := Lib.hid (B124.out.trans (hbe125.mono B124.out.size))
                  have hz125 := B124.out.size
                  have hy125 := hbe125.size
                  have P125 := Lib.hid (P124.out.below hbe125)
                  have R125 := A125
                  clear A125
                  clear hbe125
                  refine hK.out _ _ (range_below hR B125.out) (fun _ => ?_)
                  try simp only [Act.put, List.setIfInBounds_toArray, List.set_cons_zero, List.set_cons_succ]
                  clear hK K
                  refine wpAnyH_ready (rs := [9]) (by kernel_rfl) (by simp) ?_
                  refine AllReadyH.cons rfl (fun K hK => ?_) AllReadyH.nil
                  · rw [if_pos (by rfl)]
                    refine wp_st (.tmp 7) (.tmp 25) rfl rfl g121 zeros (T (l.take m)) P125.out (by simp [zeros]) (T_len _) rfl rfl ?_
                    intro U126 P126 hc126
                    have B126 := Lib.hid (Chg.below B125.out B125.out.size (by omega) hc126)
                    have hyy126 := (Array.getElem?_eq_some_iff.1 R125.out).1
                    have R126 := Lib.hid ((hc126.block g125 hyy126 (by omega)).trans R125.out)
                    clear hc126
                    refine hK.out _ _ (range_below hR B126.out) (fun _ => ?_)
                    try simp only [Act.put, List.setIfInBounds_toArray, List.set_cons_zero, List.set_cons_succ]
                    clear hK K
                    refine wpAnyH_ready (rs := [10]) (by kernel_rfl) (by simp) ?_
                    refine AllReadyH.cons rfl (fun K hK => ?_) AllReadyH.nil
                    · rw [if_pos (by rfl)]
                      refine wp_st (.tmp 8) (.tmp 28) rfl rfl g125 zeros (T [d]) R126.out (by simp [zeros]) (T_len _) rfl rfl ?_
                      intro U127 R127 hc127
                      have B127 := Lib.hid (Chg.below B126.out B126.out.size (by omega) hc127)
                      have hyy127 := (Array.getElem?_eq_some_iff.1 P126.out).1
                      have P127 := Lib.hid ((hc127.block g121 hyy127 (by omega)).trans P126.out)
                      clear hc127
                      refine hK.out _ _ (range_below hR B127.out) (fun _ => ?_)
                      try simp only [Act.put, List.setIfInBounds_toArray, List.set_cons_zero, List.set_cons_succ]
                      clear hK K
                      refine wpAnyH_done (by kernel_rfl) ?_ _
                      have BF := B127
                      have F7 := P127
                      have F8 := R127
                      go_wp2_with fail
                      go_meet
                      case rel => exact ⟨g121, g125, rfl, rfl, F7, F8, BF⟩
              · rw [if_pos (by rfl)]
                refine wp_al rfl rfl ?_
                intro U128 g128 hbe128 hge128 hlt128 A128
                have B128 := Lib.hid (B123.out.trans (hbe128.mono B123.out.size))
                have hz128 := B123.out.size
                have hy128 := hbe128.size
                have L128 := Lib.hid (L123.out.below hbe128)
                have P128 := Lib.hid (P123.out.below hbe128)
                have R128 := A128
                clear A128
                clear hbe128
                refine hK.out _ _ (range_below hR B128.out) (fun _ => ?_)
                try simp only [Act.put, List.setIfInBounds_toArray, List.set_cons_zero, List.set_cons_succ]
                clear hK K
                refine wpAnyH_ready (rs := [6]) (by kernel_rfl) (by simp) ?_
                refine AllReadyH.cons rfl (fun K hK => ?_) AllReadyH.nil
                · rw [if_pos (by rfl)]
                  go_simp
                  go_at_call 17
                  refine (CB.out U128 g123 B128.out L128.out).mono ?_
                  rintro e U129 ⟨rfl, hbe129⟩
                  have B129 := Lib.hid (B128.out.trans (hbe129.mono B128.out.size))
                  have hz129 := B128.out.size
                  have hy129 := hbe129.size
                  have L129 := Lib.hid (L128.out.below hbe129)
                  have P129 := Lib.hid (P128.out.below hbe129)
                  have R129 := Lib.hid (R128.out.below hbe129)
                  clear hbe129
                  refine hK.out _ _ (range_below hR B129.out) (fun _ => ?_)
                  try simp only [Act.put, List.setIfInBounds_toArray, List.set_cons_zero, List.set_cons_succ]
                  clear hK K
                  refine wpAnyH_ready (rs := [9]) (by kernel_rfl) (by simp) ?_
                  refine AllReadyH.cons rfl (fun K hK => ?_) AllReadyH.nil
                  · rw [if_pos (by rfl)]
                    refine wp_st (.tmp 7) (.tmp 25) rfl rfl g121 zeros (T (l.take m)) P129.out (by simp [zeros]) (T_len _) rfl rfl ?_
                    intro U130 P130 hc130
                    have B130 := Lib.hid (Chg.below B129.out B129.out.size (by omega) hc130)
                    have hyy130 := (Array.getElem?_eq_some_iff.1 R129.out).1
                    have R130 := Lib.hid ((hc130.block g128 hyy130 (by omega)).trans R129.out)
                    clear hc130
                    refine hK.out _ _ (range_below hR B130.out) (fun _ => ?_)
                    try simp only [Act.put, List.setIfInBounds_toArray, List.set_cons_zero, List.set_cons_succ]
                    clear hK K
                    refine wpAnyH_ready (rs := [10]) (by kernel_rfl) (by simp) ?_
                    refine AllReadyH.cons rfl (fun K hK => ?_) AllReadyH.nil
                    · rw [if_pos (by rfl)]
                      refine wp_st (.tmp 8) (.tmp 28) rfl rfl g128 zeros (T [d]) R130.out (by simp [zeros]) (T_len _) rfl rfl ?_
                      intro U131 R131 hc131
                      have B131 := Lib.hid (Chg.below B130.out B130.out.size (by omega) hc131)
                      have hyy131 := (Array.getElem?_eq_some_iff.1 P130.out).1
                      have P131 := Lib.hid ((hc131.block g121 hyy131 (by omega)).trans P130.out)
                      clear hc131
                      refine hK.out _ _ (range_below hR B131.out) (fun _ => ?_)
                      try simp only [Act.put, List.setIfInBounds_toArray, List.set_cons_zero, List.set_cons_succ]
                      clear hK K
                      refine wpAnyH_done (by kernel_rfl) ?_ _
                      have BF := B131
                      have F7 := P131
                      have F8 := R131
                      go_wp2_with fail
                      go_meet
                      case rel => exact ⟨g121, g128, rfl, rfl, F7, F8, BF⟩
            · rw [if_pos (by rfl)]
              refine wp_al rfl rfl ?_
              intro U132 g132 hbe132 hge132 hlt132 A132
              have B132 := Lib.hid (B122.out.trans (hbe132.mono B122.out.size))
              have hz132 := B122.out.size
              have hy132 := hbe132.size
              have P132 := Lib.hid (P122.out.below hbe132)
              have R132 := A132
              clear A132
              clear hbe132
              refine hK.out _ _ (range_below hR B132.out) (fun _ => ?_)
              try simp only [Act.put, List.setIfInBounds_toArray, List.set_cons_zero, List.set_cons_succ]
              clear hK K
              refine wpAnyH_ready (rs := [5]) (by kernel_rfl) (by simp) ?_
              refine AllReadyH.cons rfl (fun K hK => ?_) AllReadyH.nil
              · rw [if_pos (by rfl)]
                refine wp_b1 rfl 26 rfl d rfl HD32.out ?_
                intro U133 g133 hbe133 hge133 hlt133 L133x
                have B133 := Lib.hid (B132.out.trans (hbe133.mono B132.out.size))
                have hz133 := B132.out.size
                have hy133 := hbe133.size
                have P133 := Lib.hid (P132.out.below hbe133)
                have R133 := Lib.hid (R132.out.below hbe133)
                have L133 := L133x
                clear L133x
                clear hbe133
                refine hK.out _ _ (range_below hR B133.out) (fun _ => ?_)
                try simp only [Act.put, List.setIfInBounds_toArray, List.set_cons_zero, List.set_cons_succ]
                clear hK K
                refine wpAnyH_ready (rs := [6]) (by kernel_rfl) (by simp) ?_
                refine AllReadyH.cons rfl (fun K hK => ?_) AllReadyH.nil
                · rw [if_pos (by rfl)]
                  go_simp
                  go_at_call 17
                  refine (CB.out U133 g133 B133.out L133.out).mono ?_
                  rintro e U134 ⟨rfl, hbe134⟩
                  have B134 := Lib.hid (B133.out.trans (hbe134.mono B133.out.size))
                  have hz134 := B133.out.size
                  have hy134 := hbe134.size
                  have L134 := Lib.hid (L133.out.below hbe134)
                  have P134 := Lib.hid (P133.out.below hbe134)
                  have R134 := Lib.hid (R133.out.below hbe134)
                  clear hbe134
                  refine hK.out _ _ (range_below hR B134.out) (fun _ => ?_)
                  try simp only [Act.put, List.setIfInBounds_toArray, List.set_cons_zero, List.set_cons_succ]
                  clear hK K
                  refine wpAnyH_ready (rs := [9]) (by kernel_rfl) (by simp) ?_
                  refine AllReadyH.cons rfl (fun K hK => ?_) AllReadyH.nil
                  · rw [if_pos (by rfl)]
                    refine wp_st (.tmp 7) (.tmp 25) rfl rfl g121 zeros (T (l.take m)) P134.out (by simp [zeros]) (T_len _) rfl rfl ?_
                    intro U135 P135 hc135
                    have B135 := Lib.hid (Chg.below B134.out B134.out.size (by omega) hc135)
                    have hyy135 := (Array.getElem?_eq_some_iff.1 R134.out).1
                    have R135 := Lib.hid ((hc135.block g132 hyy135 (by omega)).trans R134.out)
                    clear hc135
                    refine hK.out _ _ (range_below hR B135.out) (fun _ => ?_)
                    try simp only [Act.put, List.setIfInBounds_toArray, List.set_cons_zero, List.set_cons_succ]
                    clear hK K
                    refine wpAnyH_ready (rs := [10]) (by kernel_rfl) (by simp) ?_
                    refine AllReadyH.cons rfl (fun K hK => ?_) AllReadyH.nil
                    · rw [if_pos (by rfl)]
                      refine wp_st (.tmp 8) (.tmp 28) rfl rfl g132 zeros (T [d]) R135.out (by simp [zeros]) (T_len _) rfl rfl ?_
                      intro U136 R136 hc136
                      have B136 := Lib.hid (Chg.below B135.out B135.out.size (by omega) hc136)
                      have hyy136 := (Array.getElem?_eq_some_iff.1 P135.out).1
                      have P136 := Lib.hid ((hc136.block g121 hyy136 (by omega)).trans P135.out)
                      clear hc136
                      refine hK.out _ _ (range_below hR B136.out) (fun _ => ?_)
                      try simp only [Act.put, List.setIfInBounds_toArray, List.set_cons_zero, List.set_cons_succ]
                      clear hK K
                      refine wpAnyH_done (by kernel_rfl) ?_ _
                      have BF := B136
                      have F7 := P136
                      have F8 := R136
                      go_wp2_with fail
                      go_meet
                      case rel => exact ⟨g121, g132, rfl, rfl, F7, F8, BF⟩
          · rw [if_pos (by rfl)]
            refine wp_b1 rfl 26 rfl d rfl HD32.out ?_
            intro U137 g137 hbe137 hge137 hlt137 L137x
            have B137 := Lib.hid (B121.out.trans (hbe137.mono B121.out.size))
            have hz137 := B121.out.size
            have hy137 := hbe137.size
            have P137 := Lib.hid (P121.out.below hbe137)
            have L137 := L137x
            clear L137x
            clear hbe137
            refine hK.out _ _ (range_below hR B137.out) (fun _ => ?_)
            try simp only [Act.put, List.setIfInBounds_toArray, List.set_cons_zero, List.set_cons_succ]
            clear hK K
            refine wpAnyH_ready (rs := [3, 8]) (by kernel_rfl) (by simp) ?_
            refine AllReadyH.cons rfl (fun K hK => ?_) (AllReadyH.cons rfl (fun K hK => ?_) AllReadyH.nil)
            · rw [if_pos (by rfl)]
              go_simp
              go_at_call 17
              refine (CA.out U137 B137.out).mono ?_
              rintro e U138 ⟨rfl, hbe138⟩
              have B138 := Lib.hid (B137.out.trans (hbe138.mono B137.out.size))
              have hz138 := B137.out.size
              have hy138 := hbe138.size
              have L138 := Lib.hid (L137.out.below hbe138)
              have P138 := Lib.hid (P137.out.below hbe138)
              clear hbe138
              refine hK.out _ _ (range_below hR B138.out) (fun _ => ?_)
              try simp only [Act.put, List.setIfInBounds_toArray, List.set_cons_zero, List.set_cons_succ]
              clear hK K
              refine wpAnyH_ready (rs := [6, 8]) (by kernel_rfl) (by simp) ?_
              refine AllReadyH.cons rfl (fun K hK => ?_) (AllReadyH.cons rfl (fun K hK => ?_) AllReadyH.nil)
              · rw [if_pos (by rfl)]
                go_simp
                go_at_call 17
                refine (CB.out U138 g137 B138.out L138.out).mono ?_
                rintro e U139 ⟨rfl, hbe139⟩
                have B139 := Lib.hid (B138.out.trans (hbe139.mono B138.out.size))
                have hz139 := B138.out.size
                have hy139 := hbe139.size
                have L139 := Lib.hid (L138.out.below hbe139)
                have P139 := Lib.hid (P138.out.below hbe139)
                clear hbe139
                refine hK.out _ _ (range_below hR B139.out) (fun _ => ?_)
                try simp only [Act.put, List.setIfInBounds_toArray, List.set_cons_zero, List.set_cons_succ]
                clear hK K
                refine wpAnyH_ready (rs := [8]) (by kernel_rfl) (by simp) ?_
                refine AllReadyH.cons rfl (fun K hK => ?_) AllReadyH.nil
                · rw [if_pos (by rfl)]
                  refine wp_al rfl rfl ?_
                  intro U140 g140 hbe140 hge140 hlt140 A140
                  have B140 := Lib.hid (B139.out.trans (hbe140.mono B139.out.size))
                  have hz140 := B139.out.size
                  have hy140 := hbe140.size
                  have P140 := Lib.hid (P139.out.below hbe140)
                  have R140 := A140
                  clear A140
                  clear hbe140
                  refine hK.out _ _ (range_below hR B140.out) (fun _ => ?_)
                  try simp only [Act.put, List.setIfInBounds_toArray, List.set_cons_zero, List.set_cons_succ]
                  clear hK K
                  refine wpAnyH_ready (rs := [9]) (by kernel_rfl) (by simp) ?_
                  refine AllReadyH.cons rfl (fun K hK => ?_) AllReadyH.nil
                  · rw [if_pos (by rfl)]
                    refine wp_st (.tmp 7) (.tmp 25) rfl rfl g121 zeros (T (l.take m)) P140.out (by simp [zeros]) (T_len _) rfl rfl ?_
                    intro U141 P141 hc141
                    have B141 := Lib.hid (Chg.below B140.out B140.out.size (by omega) hc141)
                    have hyy141 := (Array.getElem?_eq_some_iff.1 R140.out).1
                    have R141 := Lib.hid ((hc141.block g140 hyy141 (by omega)).trans R140.out)
                    clear hc141
                    refine hK.out _ _ (range_below hR B141.out) (fun _ => ?_)
                    try simp only [Act.put, List.setIfInBounds_toArray, List.set_cons_zero, List.set_cons_succ]
                    clear hK K
                    refine wpAnyH_ready (rs := [10]) (by kernel_rfl) (by simp) ?_
                    refine AllReadyH.cons rfl (fun K hK => ?_) AllReadyH.nil
                    · rw [if_pos (by rfl)]
                      refine wp_st (.tmp 8) (.tmp 28) rfl rfl g140 zeros (T [d]) R141.out (by simp [zeros]) (T_len _) rfl rfl ?_
                      intro U142 R142 hc142
                      have B142 := Lib.hid (Chg.below B141.out B141.out.size (by omega) hc142)
                      have hyy142 := (Array.getElem?_eq_some_iff.1 P141.out).1
                      have P142 := Lib.hid ((hc142.block g121 hyy142 (by omega)).trans P141.out)
                      clear hc142
                      refine hK.out _ _ (range_below hR B142.out) (fun _ => ?_)
                      try simp only [Act.put, List.setIfInBounds_toArray, List.set_cons_zero, List.set_cons_succ]
                      clear hK K
                      refine wpAnyH_done (by kernel_rfl) ?_ _
                      have BF := B142
                      have F7 := P142
                      have F8 := R142
                      go_wp2_with fail
                      go_meet
                      case rel => exact ⟨g121, g140, rfl, rfl, F7, F8, BF⟩
              · rw [if_pos (by rfl)]
                refine wp_al rfl rfl ?_
                intro U143 g143 hbe143 hge143 hlt143 A143
                have B143 := Lib.hid (B138.out.trans (hbe143.mono B138.out.size))
                have hz143 := B138.out.size
                have hy143 := hbe143.size
                have L143 := Lib.hid (L138.out.below hbe143)
                have P143 := Lib.hid (P138.out.below hbe143)
                have R143 := A143
                clear A143
                clear hbe143
                refine hK.out _ _ (range_below hR B143.out) (fun _ => ?_)
                try simp only [Act.put, List.setIfInBounds_toArray, List.set_cons_zero, List.set_cons_succ]
                clear hK K
                refine wpAnyH_ready (rs := [6]) (by kernel_rfl) (by simp) ?_
                refine AllReadyH.cons rfl (fun K hK => ?_) AllReadyH.nil
                · rw [if_pos (by rfl)]
                  go_simp
                  go_at_call 17
                  refine (CB.out U143 g137 B143.out L143.out).mono ?_
                  rintro e U144 ⟨rfl, hbe144⟩
                  have B144 := Lib.hid (B143.out.trans (hbe144.mono B143.out.size))
                  have hz144 := B143.out.size
                  have hy144 := hbe144.size
                  have L144 := Lib.hid (L143.out.below hbe144)
                  have P144 := Lib.hid (P143.out.below hbe144)
                  have R144 := Lib.hid (R143.out.below hbe144)
                  clear hbe144
                  refine hK.out _ _ (range_below hR B144.out) (fun _ => ?_)
                  try simp only [Act.put, List.setIfInBounds_toArray, List.set_cons_zero, List.set_cons_succ]
                  clear hK K
                  refine wpAnyH_ready (rs := [9]) (by kernel_rfl) (by simp) ?_
                  refine AllReadyH.cons rfl (fun K hK => ?_) AllReadyH.nil
                  · rw [if_pos (by rfl)]
                    refine wp_st (.tmp 7) (.tmp 25) rfl rfl g121 zeros (T (l.take m)) P144.out (by simp [zeros]) (T_len _) rfl rfl ?_
                    intro U145 P145 hc145
                    have B145 := Lib.hid (Chg.below B144.out B144.out.size (by omega) hc145)
                    have hyy145 := (Array.getElem?_eq_some_iff.1 R144.out).1
                    have R145 := Lib.hid ((hc145.block g143 hyy145 (by omega)).trans R144.out)
                    clear hc145
                    refine hK.out _ _ (range_below hR B145.out) (fun _ => ?_)
                    try simp only [Act.put, List.setIfInBounds_toArray, List.set_cons_zero, List.set_cons_succ]
                    clear hK K
                    refine wpAnyH_ready (rs := [10]) (by kernel_rfl) (by simp) ?_
                    refine AllReadyH.cons rfl (fun K hK => ?_) AllReadyH.nil
                    · rw [if_pos (by rfl)]
                      refine wp_st (.tmp 8) (.tmp 28) rfl rfl g143 zeros (T [d]) R145.out (by simp [zeros]) (T_len _) rfl rfl ?_
                      intro U146 R146 hc146
                      have B146 := Lib.hid (Chg.below B145.out B145.out.size (by omega) hc146)
                      have hyy146 := (Array.getElem?_eq_some_iff.1 P145.out).1
                      have P146 := Lib.hid ((hc146.block g121 hyy146 (by omega)).trans P145.out)
                      clear hc146
                      refine hK.out _ _ (range_below hR B146.out) (fun _ => ?_)
                      try simp only [Act.put, List.setIfInBounds_toArray, List.set_cons_zero, List.set_cons_succ]
                      clear hK K
                      refine wpAnyH_done (by kernel_rfl) ?_ _
                      have BF := B146
                      have F7 := P146
                      have F8 := R146
                      go_wp2_with fail
                      go_meet
                      case rel => exact ⟨g121, g143, rfl, rfl, F7, F8, BF⟩
            · rw [if_pos (by rfl)]
              refine wp_al rfl rfl ?_
              intro U147 g147 hbe147 hge147 hlt147 A147
              have B147 := Lib.hid (B137.out.trans (hbe147.mono B137.out.size))
              have hz147 := B137.out.size
              have hy147 := hbe147.size
              have L147 := Lib.hid (L137.out.below hbe147)
              have P147 := Lib.hid (P137.out.below hbe147)
              have R147 := A147
              clear A147
              clear hbe147
              refine hK.out _ _ (range_below hR B147.out) (fun _ => ?_)
              try simp only [Act.put, List.setIfInBounds_toArray, List.set_cons_zero, List.set_cons_succ]
              clear hK K
              refine wpAnyH_ready (rs := [3]) (by kernel_rfl) (by simp) ?_
              refine AllReadyH.cons rfl (fun K hK => ?_) AllReadyH.nil
              · rw [if_pos (by rfl)]
                go_simp
                go_at_call 17
                refine (CA.out U147 B147.out).mono ?_
                rintro e U148 ⟨rfl, hbe148⟩
                have B148 := Lib.hid (B147.out.trans (hbe148.mono B147.out.size))
                have hz148 := B147.out.size
                have hy148 := hbe148.size
                have L148 := Lib.hid (L147.out.below hbe148)
                have P148 := Lib.hid (P147.out.below hbe148)
                have R148 := Lib.hid (R147.out.below hbe148)
                clear hbe148
                refine hK.out _ _ (range_below hR B148.out) (fun _ => ?_)
                try simp only [Act.put, List.setIfInBounds_toArray, List.set_cons_zero, List.set_cons_succ]
                clear hK K
                refine wpAnyH_ready (rs := [6]) (by kernel_rfl) (by simp) ?_
                refine AllReadyH.cons rfl (fun K hK => ?_) AllReadyH.nil
                · rw [if_pos (by rfl)]
                  go_simp
                  go_at_call 17
                  refine (CB.out U148 g137 B148.out L148.out).mono ?_
                  rintro e U149 ⟨rfl, hbe149⟩
                  have B149 := Lib.hid (B148.out.trans (hbe149.mono B148.out.size))
                  have hz149 := B148.out.size
                  have hy149 := hbe149.size
                  have L149 := Lib.hid (L148.out.below hbe149)
                  have P149 := Lib.hid (P148.out.below hbe149)
                  have R149 := Lib.hid (R148.out.below hbe149)
                  clear hbe149
                  refine hK.out _ _ (range_below hR B149.out) (fun _ => ?_)
                  try simp only [Act.put, List.setIfInBounds_toArray, List.set_cons_zero, List.set_cons_succ]
                  clear hK K
                  refine wpAnyH_ready (rs := [9]) (by kernel_rfl) (by simp) ?_
                  refine AllReadyH.cons rfl (fun K hK => ?_) AllReadyH.nil
                  · rw [if_pos (by rfl)]
                    refine wp_st (.tmp 7) (.tmp 25) rfl rfl g121 zeros (T (l.take m)) P149.out (by simp [zeros]) (T_len _) rfl rfl ?_
                    intro U150 P150 hc150
                    have B150 := Lib.hid (Chg.below B149.out B149.out.size (by omega) hc150)
                    have hyy150 := (Array.getElem?_eq_some_iff.1 R149.out).1
                    have R150 := Lib.hid ((hc150.block g147 hyy150 (by omega)).trans R149.out)
                    clear hc150
                    refine hK.out _ _ (range_below hR B150.out) (fun _ => ?_)
                    try simp only [Act.put, List.setIfInBounds_toArray, List.set_cons_zero, List.set_cons_succ]
                    clear hK K
                    refine wpAnyH_ready (rs := [10]) (by kernel_rfl) (by simp) ?_
                    refine AllReadyH.cons rfl (fun K hK => ?_) AllReadyH.nil
                    · rw [if_pos (by rfl)]
                      refine wp_st (.tmp 8) (.tmp 28) rfl rfl g147 zeros (T [d]) R150.out (by simp [zeros]) (T_len _) rfl rfl ?_
                      intro U151 R151 hc151
                      have B151 := Lib.hid (Chg.below B150.out B150.out.size (by omega) hc151)
                      have hyy151 := (Array.getElem?_eq_some_iff.1 P150.out).1
                      have P151 := Lib.hid ((hc151.block g121 hyy151 (by omega)).trans P150.out)
                      clear hc151
                      refine hK.out _ _ (range_below hR B151.out) (fun _ => ?_)
                      try simp only [Act.put, List.setIfInBounds_toArray, List.set_cons_zero, List.set_cons_succ]
                      clear hK K
                      refine wpAnyH_done (by kernel_rfl) ?_ _
                      have BF := B151
                      have F7 := P151
                      have F8 := R151
                      go_wp2_with fail
                      go_meet
                      case rel => exact ⟨g121, g147, rfl, rfl, F7, F8, BF⟩
          · rw [if_pos (by rfl)]
            refine wp_al rfl rfl ?_
            intro U152 g152 hbe152 hge152 hlt152 A152
            have B152 := Lib.hid (B121.out.trans (hbe152.mono B121.out.size))
            have hz152 := B121.out.size
            have hy152 := hbe152.size
            have P152 := Lib.hid (P121.out.below hbe152)
            have R152 := A152
            clear A152
            clear hbe152
            refine hK.out _ _ (range_below hR B152.out) (fun _ => ?_)
            try simp only [Act.put, List.setIfInBounds_toArray, List.set_cons_zero, List.set_cons_succ]
            clear hK K
            refine wpAnyH_ready (rs := [3, 5]) (by kernel_rfl) (by simp) ?_
            refine AllReadyH.cons rfl (fun K hK => ?_) (AllReadyH.cons rfl (fun K hK => ?_) AllReadyH.nil)
            · rw [if_pos (by rfl)]
              go_simp
              go_at_call 17
              refine (CA.out U152 B152.out).mono ?_
              rintro e U153 ⟨rfl, hbe153⟩
              have B153 := Lib.hid (B152.out.trans (hbe153.mono B152.out.size))
              have hz153 := B152.out.size
              have hy153 := hbe153.size
              have P153 := Lib.hid (P152.out.below hbe153)
              have R153 := Lib.hid (R152.out.below hbe153)
              clear hbe153
              refine hK.out _ _ (range_below hR B153.out) (fun _ => ?_)
              try simp only [Act.put, List.setIfInBounds_toArray, List.set_cons_zero, List.set_cons_succ]
              clear hK K
              refine wpAnyH_ready (rs := [5]) (by kernel_rfl) (by simp) ?_
              refine AllReadyH.cons rfl (fun K hK => ?_) AllReadyH.nil
              · rw [if_pos (by rfl)]
                refine wp_b1 rfl 26 rfl d rfl HD32.out ?_
                intro U154 g154 hbe154 hge154 hlt154 L154x
                have B154 := Lib.hid (B153.out.trans (hbe154.mono B153.out.size))
                have hz154 := B153.out.size
                have hy154 := hbe154.size
                have P154 := Lib.hid (P153.out.below hbe154)
                have R154 := Lib.hid (R153.out.below hbe154)
                have L154 := L154x
                clear L154x
                clear hbe154
                refine hK.out _ _ (range_below hR B154.out) (fun _ => ?_)
                try simp only [Act.put, List.setIfInBounds_toArray, List.set_cons_zero, List.set_cons_succ]
                clear hK K
                refine wpAnyH_ready (rs := [6]) (by kernel_rfl) (by simp) ?_
                refine AllReadyH.cons rfl (fun K hK => ?_) AllReadyH.nil
                · rw [if_pos (by rfl)]
                  go_simp
                  go_at_call 17
                  refine (CB.out U154 g154 B154.out L154.out).mono ?_
                  rintro e U155 ⟨rfl, hbe155⟩
                  have B155 := Lib.hid (B154.out.trans (hbe155.mono B154.out.size))
                  have hz155 := B154.out.size
                  have hy155 := hbe155.size
                  have L155 := Lib.hid (L154.out.below hbe155)
                  have P155 := Lib.hid (P154.out.below hbe155)
                  have R155 := Lib.hid (R154.out.below hbe155)
                  clear hbe155
                  refine hK.out _ _ (range_below hR B155.out) (fun _ => ?_)
                  try simp only [Act.put, List.setIfInBounds_toArray, List.set_cons_zero, List.set_cons_succ]
                  clear hK K
                  refine wpAnyH_ready (rs := [9]) (by kernel_rfl) (by simp) ?_
                  refine AllReadyH.cons rfl (fun K hK => ?_) AllReadyH.nil
                  · rw [if_pos (by rfl)]
                    refine wp_st (.tmp 7) (.tmp 25) rfl rfl g121 zeros (T (l.take m)) P155.out (by simp [zeros]) (T_len _) rfl rfl ?_
                    intro U156 P156 hc156
                    have B156 := Lib.hid (Chg.below B155.out B155.out.size (by omega) hc156)
                    have hyy156 := (Array.getElem?_eq_some_iff.1 R155.out).1
                    have R156 := Lib.hid ((hc156.block g152 hyy156 (by omega)).trans R155.out)
                    clear hc156
                    refine hK.out _ _ (range_below hR B156.out) (fun _ => ?_)
                    try simp only [Act.put, List.setIfInBounds_toArray, List.set_cons_zero, List.set_cons_succ]
                    clear hK K
                    refine wpAnyH_ready (rs := [10]) (by kernel_rfl) (by simp) ?_
                    refine AllReadyH.cons rfl (fun K hK => ?_) AllReadyH.nil
                    · rw [if_pos (by rfl)]
                      refine wp_st (.tmp 8) (.tmp 28) rfl rfl g152 zeros (T [d]) R156.out (by simp [zeros]) (T_len _) rfl rfl ?_
                      intro U157 R157 hc157
                      have B157 := Lib.hid (Chg.below B156.out B156.out.size (by omega) hc157)
                      have hyy157 := (Array.getElem?_eq_some_iff.1 P156.out).1
                      have P157 := Lib.hid ((hc157.block g121 hyy157 (by omega)).trans P156.out)
                      clear hc157
                      refine hK.out _ _ (range_below hR B157.out) (fun _ => ?_)
                      try simp only [Act.put, List.setIfInBounds_toArray, List.set_cons_zero, List.set_cons_succ]
                      clear hK K
                      refine wpAnyH_done (by kernel_rfl) ?_ _
                      have BF := B157
                      have F7 := P157
                      have F8 := R157
                      go_wp2_with fail
                      go_meet
                      case rel => exact ⟨g121, g152, rfl, rfl, F7, F8, BF⟩
            · rw [if_pos (by rfl)]
              refine wp_b1 rfl 26 rfl d rfl HD32.out ?_
              intro U158 g158 hbe158 hge158 hlt158 L158x
              have B158 := Lib.hid (B152.out.trans (hbe158.mono B152.out.size))
              have hz158 := B152.out.size
              have hy158 := hbe158.size
              have P158 := Lib.hid (P152.out.below hbe158)
              have R158 := Lib.hid (R152.out.below hbe158)
              have L158 := L158x
              clear L158x
              clear hbe158
              refine hK.out _ _ (range_below hR B158.out) (fun _ => ?_)
              try simp only [Act.put, List.setIfInBounds_toArray, List.set_cons_zero, List.set_cons_succ]
              clear hK K
              refine wpAnyH_ready (rs := [3]) (by kernel_rfl) (by simp) ?_
              refine AllReadyH.cons rfl (fun K hK => ?_) AllReadyH.nil
              · rw [if_pos (by rfl)]
                go_simp
                go_at_call 17
                refine (CA.out U158 B158.out).mono ?_
                rintro e U159 ⟨rfl, hbe159⟩
                have B159 := Lib.hid (B158.out.trans (hbe159.mono B158.out.size))
                have hz159 := B158.out.size
                have hy159 := hbe159.size
                have L159 := Lib.hid (L158.out.below hbe159)
                have P159 := Lib.hid (P158.out.below hbe159)
                have R159 := Lib.hid (R158.out.below hbe159)
                clear hbe159
                refine hK.out _ _ (range_below hR B159.out) (fun _ => ?_)
                try simp only [Act.put, List.setIfInBounds_toArray, List.set_cons_zero, List.set_cons_succ]
                clear hK K
                refine wpAnyH_ready (rs := [6]) (by kernel_rfl) (by simp) ?_
                refine AllReadyH.cons rfl (fun K hK => ?_) AllReadyH.nil
                · rw [if_pos (by rfl)]
                  go_simp
                  go_at_call 17
                  refine (CB.out U159 g158 B159.out L159.out).mono ?_
                  rintro e U160 ⟨rfl, hbe160⟩
                  have B160 := Lib.hid (B159.out.trans (hbe160.mono B159.out.size))
                  have hz160 := B159.out.size
                  have hy160 := hbe160.size
                  have L160 := Lib.hid (L159.out.below hbe160)
                  have P160 := Lib.hid (P159.out.below hbe160)
                  have R160 := Lib.hid (R159.out.below hbe160)
                  clear hbe160
                  refine hK.out _ _ (range_below hR B160.out) (fun _ => ?_)
                  try simp only [Act.put, List.setIfInBounds_toArray, List.set_cons_zero, List.set_cons_succ]
                  clear hK K
                  refine wpAnyH_ready (rs := [9]) (by kernel_rfl) (by simp) ?_
                  refine AllReadyH.cons rfl (fun K hK => ?_) AllReadyH.nil
                  · rw [if_pos (by rfl)]
                    refine wp_st (.tmp 7) (.tmp 25) rfl rfl g121 zeros (T (l.take m)) P160.out (by simp [zeros]) (T_len _) rfl rfl ?_
                    intro U161 P161 hc161
                    have B161 := Lib.hid (Chg.below B160.out B160.out.size (by omega) hc161)
                    have hyy161 := (Array.getElem?_eq_some_iff.1 R160.out).1
                    have R161 := Lib.hid ((hc161.block g152 hyy161 (by omega)).trans R160.out)
                    clear hc161
                    refine hK.out _ _ (range_below hR B161.out) (fun _ => ?_)
                    try simp only [Act.put, List.setIfInBounds_toArray, List.set_cons_zero, List.set_cons_succ]
                    clear hK K
                    refine wpAnyH_ready (rs := [10]) (by kernel_rfl) (by simp) ?_
                    refine AllReadyH.cons rfl (fun K hK => ?_) AllReadyH.nil
                    · rw [if_pos (by rfl)]
                      refine wp_st (.tmp 8) (.tmp 28) rfl rfl g152 zeros (T [d]) R161.out (by simp [zeros]) (T_len _) rfl rfl ?_
                      intro U162 R162 hc162
                      have B162 := Lib.hid (Chg.below B161.out B161.out.size (by omega) hc162)
                      have hyy162 := (Array.getElem?_eq_some_iff.1 P161.out).1
                      have P162 := Lib.hid ((hc162.block g121 hyy162 (by omega)).trans P161.out)
                      clear hc162
                      refine hK.out _ _ (range_below hR B162.out) (fun _ => ?_)
                      try simp only [Act.put, List.setIfInBounds_toArray, List.set_cons_zero, List.set_cons_succ]
                      clear hK K
                      refine wpAnyH_done (by kernel_rfl) ?_ _
                      have BF := B162
                      have F7 := P162
                      have F8 := R162
                      go_wp2_with fail
                      go_meet
                      case rel => exact ⟨g121, g152, rfl, rfl, F7, F8, BF⟩
        · rw [if_pos (by rfl)]
          refine wp_al rfl rfl ?_
          intro U163 g163 hbe163 hge163 hlt163 A163
          have B163 := Lib.hid (B2.out.trans (hbe163.mono B2.out.size))
          have hz163 := B2.out.size
          have hy163 := hbe163.size
          have R163 := A163
          clear A163
          clear hbe163
          refine hK.out _ _ (range_below hR B163.out) (fun _ => ?_)
          try simp only [Act.put, List.setIfInBounds_toArray, List.set_cons_zero, List.set_cons_succ]
          clear hK K
          refine wpAnyH_ready (rs := [3, 5, 7]) (by kernel_rfl) (by simp) ?_
          refine AllReadyH.cons rfl (fun K hK => ?_) (AllReadyH.cons rfl (fun K hK => ?_) (AllReadyH.cons rfl (fun K hK => ?_) AllReadyH.nil))
          · rw [if_pos (by rfl)]
            go_simp
            go_at_call 17
            refine (CA.out U163 B163.out).mono ?_
            rintro e U164 ⟨rfl, hbe164⟩
            have B164 := Lib.hid (B163.out.trans (hbe164.mono B163.out.size))
            have hz164 := B163.out.size
            have hy164 := hbe164.size
            have R164 := Lib.hid (R163.out.below hbe164)
            clear hbe164
            refine hK.out _ _ (range_below hR B164.out) (fun _ => ?_)
            try simp only [Act.put, List.setIfInBounds_toArray, List.set_cons_zero, List.set_cons_succ]
            clear hK K
            refine wpAnyH_ready (rs := [5, 7]) (by kernel_rfl) (by simp) ?_
            refine AllReadyH.cons rfl (fun K hK => ?_) (AllReadyH.cons rfl (fun K hK => ?_) AllReadyH.nil)
            · rw [if_pos (by rfl)]
              refine wp_b1 rfl 26 rfl d rfl HD32.out ?_
              intro U165 g165 hbe165 hge165 hlt165 L165x
              have B165 := Lib.hid (B164.out.trans (hbe165.mono B164.out.size))
              have hz165 := B164.out.size
              have hy165 := hbe165.size
              have R165 := Lib.hid (R164.out.below hbe165)
              have L165 := L165x
              clear L165x
              clear hbe165
              refine hK.out _ _ (range_below hR B165.out) (fun _ => ?_)
              try simp only [Act.put, List.setIfInBounds_toArray, List.set_cons_zero, List.set_cons_succ]
              clear hK K
              refine wpAnyH_ready (rs := [6, 7]) (by kernel_rfl) (by simp) ?_
              refine AllReadyH.cons rfl (fun K hK => ?_) (AllReadyH.cons rfl (fun K hK => ?_) AllReadyH.nil)
              · rw [if_pos (by rfl)]
                go_simp
                go_at_call 17
                refine (CB.out U165 g165 B165.out L165.out).mono ?_
                rintro e U166 ⟨rfl, hbe166⟩
                have B166 := Lib.hid (B165.out.trans (hbe166.mono B165.out.size))
                have hz166 := B165.out.size
                have hy166 := hbe166.size
                have L166 := Lib.hid (L165.out.below hbe166)
                have R166 := Lib.hid (R165.out.below hbe166)
                clear hbe166
                refine hK.out _ _ (range_below hR B166.out) (fun _ => ?_)
                try simp only [Act.put, List.setIfInBounds_toArray, List.set_cons_zero, List.set_cons_succ]
                clear hK K
                refine wpAnyH_ready (rs := [7]) (by kernel_rfl) (by simp) ?_
                refine AllReadyH.cons rfl (fun K hK => ?_) AllReadyH.nil
                · rw [if_pos (by rfl)]
                  refine wp_al rfl rfl ?_
                  intro U167 g167 hbe167 hge167 hlt167 A167
                  have B167 := Lib.hid (B166.out.trans (hbe167.mono B166.out.size))
                  have hz167 := B166.out.size
                  have hy167 := hbe167.size
                  have R167 := Lib.hid (R166.out.below hbe167)
                  have P167 := A167
                  clear A167
                  clear hbe167
                  refine hK.out _ _ (range_below hR B167.out) (fun _ => ?_)
                  try simp only [Act.put, List.setIfInBounds_toArray, List.set_cons_zero, List.set_cons_succ]
                  clear hK K
                  refine wpAnyH_ready (rs := [9]) (by kernel_rfl) (by simp) ?_
                  refine AllReadyH.cons rfl (fun K hK => ?_) AllReadyH.nil
                  · rw [if_pos (by rfl)]
                    refine wp_st (.tmp 7) (.tmp 25) rfl rfl g167 zeros (T (l.take m)) P167.out (by simp [zeros]) (T_len _) rfl rfl ?_
                    intro U168 P168 hc168
                    have B168 := Lib.hid (Chg.below B167.out B167.out.size (by omega) hc168)
                    have hyy168 := (Array.getElem?_eq_some_iff.1 R167.out).1
                    have R168 := Lib.hid ((hc168.block g163 hyy168 (by omega)).trans R167.out)
                    clear hc168
                    refine hK.out _ _ (range_below hR B168.out) (fun _ => ?_)
                    try simp only [Act.put, List.setIfInBounds_toArray, List.set_cons_zero, List.set_cons_succ]
                    clear hK K
                    refine wpAnyH_ready (rs := [10]) (by kernel_rfl) (by simp) ?_
                    refine AllReadyH.cons rfl (fun K hK => ?_) AllReadyH.nil
                    · rw [if_pos (by rfl)]
                      refine wp_st (.tmp 8) (.tmp 28) rfl rfl g163 zeros (T [d]) R168.out (by simp [zeros]) (T_len _) rfl rfl ?_
                      intro U169 R169 hc169
                      have B169 := Lib.hid (Chg.below B168.out B168.out.size (by omega) hc169)
                      have hyy169 := (Array.getElem?_eq_some_iff.1 P168.out).1
                      have P169 := Lib.hid ((hc169.block g167 hyy169 (by omega)).trans P168.out)
                      clear hc169
                      refine hK.out _ _ (range_below hR B169.out) (fun _ => ?_)
                      try simp only [Act.put, List.setIfInBounds_toArray, List.set_cons_zero, List.set_cons_succ]
                      clear hK K
                      refine wpAnyH_done (by kernel_rfl) ?_ _
                      have BF := B169
                      have F7 := P169
                      have F8 := R169
                      go_wp2_with fail
                      go_meet
                      case rel => exact ⟨g167, g163, rfl, rfl, F7, F8, BF⟩
              · rw [if_pos (by rfl)]
                refine wp_al rfl rfl ?_
                intro U170 g170 hbe170 hge170 hlt170 A170
                have B170 := Lib.hid (B165.out.trans (hbe170.mono B165.out.size))
                have hz170 := B165.out.size
                have hy170 := hbe170.size
                have L170 := Lib.hid (L165.out.below hbe170)
                have R170 := Lib.hid (R165.out.below hbe170)
                have P170 := A170
                clear A170
                clear hbe170
                refine hK.out _ _ (range_below hR B170.out) (fun _ => ?_)
                try simp only [Act.put, List.setIfInBounds_toArray, List.set_cons_zero, List.set_cons_succ]
                clear hK K
                refine wpAnyH_ready (rs := [6]) (by kernel_rfl) (by simp) ?_
                refine AllReadyH.cons rfl (fun K hK => ?_) AllReadyH.nil
                · rw [if_pos (by rfl)]
                  go_simp
                  go_at_call 17
                  refine (CB.out U170 g165 B170.out L170.out).mono ?_
                  rintro e U171 ⟨rfl, hbe171⟩
                  have B171 := Lib.hid (B170.out.trans (hbe171.mono B170.out.size))
                  have hz171 := B170.out.size
                  have hy171 := hbe171.size
                  have L171 := Lib.hid (L170.out.below hbe171)
                  have P171 := Lib.hid (P170.out.below hbe171)
                  have R171 := Lib.hid (R170.out.below hbe171)
                  clear hbe171
                  refine hK.out _ _ (range_below hR B171.out) (fun _ => ?_)
                  try simp only [Act.put, List.setIfInBounds_toArray, List.set_cons_zero, List.set_cons_succ]
                  clear hK K
                  refine wpAnyH_ready (rs := [9]) (by kernel_rfl) (by simp) ?_
                  refine AllReadyH.cons rfl (fun K hK => ?_) AllReadyH.nil
                  · rw [if_pos (by rfl)]
                    refine wp_st (.tmp 7) (.tmp 25) rfl rfl g170 zeros (T (l.take m)) P171.out (by simp [zeros]) (T_len _) rfl rfl ?_
                    intro U172 P172 hc172
                    have B172 := Lib.hid (Chg.below B171.out B171.out.size (by omega) hc172)
                    have hyy172 := (Array.getElem?_eq_some_iff.1 R171.out).1
                    have R172 := Lib.hid ((hc172.block g163 hyy172 (by omega)).trans R171.out)
                    clear hc172
                    refine hK.out _ _ (range_below hR B172.out) (fun _ => ?_)
                    try simp only [Act.put, List.setIfInBounds_toArray, List.set_cons_zero, List.set_cons_succ]
                    clear hK K
                    refine wpAnyH_ready (rs := [10]) (by kernel_rfl) (by simp) ?_
                    refine AllReadyH.cons rfl (fun K hK => ?_) AllReadyH.nil
                    · rw [if_pos (by rfl)]
                      refine wp_st (.tmp 8) (.tmp 28) rfl rfl g163 zeros (T [d]) R172.out (by simp [zeros]) (T_len _) rfl rfl ?_
                      intro U173 R173 hc173
                      have B173 := Lib.hid (Chg.below B172.out B172.out.size (by omega) hc173)
                      have hyy173 := (Array.getElem?_eq_some_iff.1 P172.out).1
                      have P173 := Lib.hid ((hc173.block g170 hyy173 (by omega)).trans P172.out)
                      clear hc173
                      refine hK.out _ _ (range_below hR B173.out) (fun _ => ?_)
                      try simp only [Act.put, List.setIfInBounds_toArray, List.set_cons_zero, List.set_cons_succ]
                      clear hK K
                      refine wpAnyH_done (by kernel_rfl) ?_ _
                      have BF := B173
                      have F7 := P173
                      have F8 := R173
                      go_wp2_with fail
                      go_meet
                      case rel => exact ⟨g170, g163, rfl, rfl, F7, F8, BF⟩
            · rw [if_pos (by rfl)]
              refine wp_al rfl rfl ?_
              intro U174 g174 hbe174 hge174 hlt174 A174
              have B174 := Lib.hid (B164.out.trans (hbe174.mono B164.out.size))
              have hz174 := B164.out.size
              have hy174 := hbe174.size
              have R174 := Lib.hid (R164.out.below hbe174)
              have P174 := A174
              clear A174
              clear hbe174
              refine hK.out _ _ (range_below hR B174.out) (fun _ => ?_)
              try simp only [Act.put, List.setIfInBounds_toArray, List.set_cons_zero, List.set_cons_succ]
              clear hK K
              refine wpAnyH_ready (rs := [5]) (by kernel_rfl) (by simp) ?_
              refine AllReadyH.cons rfl (fun K hK => ?_) AllReadyH.nil
              · rw [if_pos (by rfl)]
                refine wp_b1 rfl 26 rfl d rfl HD32.out ?_
                intro U175 g175 hbe175 hge175 hlt175 L175x
                have B175 := Lib.hid (B174.out.trans (hbe175.mono B174.out.size))
                have hz175 := B174.out.size
                have hy175 := hbe175.size
                have P175 := Lib.hid (P174.out.below hbe175)
                have R175 := Lib.hid (R174.out.below hbe175)
                have L175 := L175x
                clear L175x
                clear hbe175
                refine hK.out _ _ (range_below hR B175.out) (fun _ => ?_)
                try simp only [Act.put, List.setIfInBounds_toArray, List.set_cons_zero, List.set_cons_succ]
                clear hK K
                refine wpAnyH_ready (rs := [6]) (by kernel_rfl) (by simp) ?_
                refine AllReadyH.cons rfl (fun K hK => ?_) AllReadyH.nil
                · rw [if_pos (by rfl)]
                  go_simp
                  go_at_call 17
                  refine (CB.out U175 g175 B175.out L175.out).mono ?_
                  rintro e U176 ⟨rfl, hbe176⟩
                  have B176 := Lib.hid (B175.out.trans (hbe176.mono B175.out.size))
                  have hz176 := B175.out.size
                  have hy176 := hbe176.size
                  have L176 := Lib.hid (L175.out.below hbe176)
                  have P176 := Lib.hid (P175.out.below hbe176)
                  have R176 := Lib.hid (R175.out.below hbe176)
                  clear hbe176
                  refine hK.out _ _ (range_below hR B176.out) (fun _ => ?_)
                  try simp only [Act.put, List.setIfInBounds_toArray, List.set_cons_zero, List.set_cons_succ]
                  clear hK K
                  refine wpAnyH_ready (rs := [9]) (by kernel_rfl) (by simp) ?_
                  refine AllReadyH.cons rfl (fun K hK => ?_) AllReadyH.nil
                  · rw [if_pos (by rfl)]
                    refine wp_st (.tmp 7) (.tmp 25) rfl rfl g174 zeros (T (l.take m)) P176.out (by simp [zeros]) (T_len _) rfl rfl ?_
                    intro U177 P177 hc177
                    have B177 := Lib.hid (Chg.below B176.out B176.out.size (by omega) hc177)
                    have hyy177 := (Array.getElem?_eq_some_iff.1 R176.out).1
                    have R177 := Lib.hid ((hc177.block g163 hyy177 (by omega)).trans R176.out)
                    clear hc177
                    refine hK.out _ _ (range_below hR B177.out) (fun _ => ?_)
                    try simp only [Act.put, List.setIfInBounds_toArray, List.set_cons_zero, List.set_cons_succ]
                    clear hK K
                    refine wpAnyH_ready (rs := [10]) (by kernel_rfl) (by simp) ?_
                    refine AllReadyH.cons rfl (fun K hK => ?_) AllReadyH.nil
                    · rw [if_pos (by rfl)]
                      refine wp_st (.tmp 8) (.tmp 28) rfl rfl g163 zeros (T [d]) R177.out (by simp [zeros]) (T_len _) rfl rfl ?_
                      intro U178 R178 hc178
                      have B178 := Lib.hid (Chg.below B177.out B177.out.size (by omega) hc178)
                      have hyy178 := (Array.getElem?_eq_some_iff.1 P177.out).1
                      have P178 := Lib.hid ((hc178.block g174 hyy178 (by omega)).trans P177.out)
                      clear hc178
                      refine hK.out _ _ (range_below hR B178.out) (fun _ => ?_)
                      try simp only [Act.put, List.setIfInBounds_toArray, List.set_cons_zero, List.set_cons_succ]
                      clear hK K
                      refine wpAnyH_done (by kernel_rfl) ?_ _
                      have BF := B178
                      have F7 := P178
                      have F8 := R178
                      go_wp2_with fail
                      go_meet
                      case rel => exact ⟨g174, g163, rfl, rfl, F7, F8, BF⟩
          · rw [if_pos (by rfl)]
            refine wp_b1 rfl 26 rfl d rfl HD32.out ?_
            intro U179 g179 hbe179 hge179 hlt179 L179x
            have B179 := Lib.hid (B163.out.trans (hbe179.mono B163.out.size))
            have hz179 := B163.out.size
            have hy179 := hbe179.size
            have R179 := Lib.hid (R163.out.below hbe179)
            have L179 := L179x
            clear L179x
            clear hbe179
            refine hK.out _ _ (range_below hR B179.out) (fun _ => ?_)
            try simp only [Act.put, List.setIfInBounds_toArray, List.set_cons_zero, List.set_cons_succ]
            clear hK K
            refine wpAnyH_ready (rs := [3, 7]) (by kernel_rfl) (by simp) ?_
            refine AllReadyH.cons rfl (fun K hK => ?_) (AllReadyH.cons rfl (fun K hK => ?_) AllReadyH.nil)
            · rw [if_pos (by rfl)]
              go_simp
              go_at_call 17
              refine (CA.out U179 B179.out).mono ?_
              rintro e U180 ⟨rfl, hbe180⟩
              have B180 := Lib.hid (B179.out.trans (hbe180.mono B179.out.size))
              have hz180 := B179.out.size
              have hy180 := hbe180.size
              have L180 := Lib.hid (L179.out.below hbe180)
              have R180 := Lib.hid (R179.out.below hbe180)
              clear hbe180
              refine hK.out _ _ (range_below hR B180.out) (fun _ => ?_)
              try simp only [Act.put, List.setIfInBounds_toArray, List.set_cons_zero, List.set_cons_succ]
              clear hK K
              refine wpAnyH_ready (rs := [6, 7]) (by kernel_rfl) (by simp) ?_
              refine AllReadyH.cons rfl (fun K hK => ?_) (AllReadyH.cons rfl (fun K hK => ?_) AllReadyH.nil)
              · rw [if_pos (by rfl)]
                go_simp
                go_at_call 17
                refine (CB.out U180 g179 B180.out L180.out).mono ?_
                rintro e U181 ⟨rfl, hbe181⟩
                have B181 := Lib.hid (B180.out.trans (hbe181.mono B180.out.size))
                have hz181 := B180.out.size
                have hy181 := hbe181.size
                have L181 := Lib.hid (L180.out.below hbe181)
                have R181 := Lib.hid (R180.out.below hbe181)
                clear hbe181
                refine hK.out _ _ (range_below hR B181.out) (fun _ => ?_)
                try simp only [Act.put, List.setIfInBounds_toArray, List.set_cons_zero, List.set_cons_succ]
                clear hK K
                refine wpAnyH_ready (rs := [7]) (by kernel_rfl) (by simp) ?_
                refine AllReadyH.cons rfl (fun K hK => ?_) AllReadyH.nil
                · rw [if_pos (by rfl)]
                  refine wp_al rfl rfl ?_
                  intro U182 g182 hbe182 hge182 hlt182 A182
                  have B182 := Lib.hid (B181.out.trans (hbe182.mono B181.out.size))
                  have hz182 := B181.out.size
                  have hy182 := hbe182.size
                  have R182 := Lib.hid (R181.out.below hbe182)
                  have P182 := A182
                  clear A182
                  clear hbe182
                  refine hK.out _ _ (range_below hR B182.out) (fun _ => ?_)
                  try simp only [Act.put, List.setIfInBounds_toArray, List.set_cons_zero, List.set_cons_succ]
                  clear hK K
                  refine wpAnyH_ready (rs := [9]) (by kernel_rfl) (by simp) ?_
                  refine AllReadyH.cons rfl (fun K hK => ?_) AllReadyH.nil
                  · rw [if_pos (by rfl)]
                    refine wp_st (.tmp 7) (.tmp 25) rfl rfl g182 zeros (T (l.take m)) P182.out (by simp [zeros]) (T_len _) rfl rfl ?_
                    intro U183 P183 hc183
                    have B183 := Lib.hid (Chg.below B182.out B182.out.size (by omega) hc183)
                    have hyy183 := (Array.getElem?_eq_some_iff.1 R182.out).1
                    have R183 := Lib.hid ((hc183.block g163 hyy183 (by omega)).trans R182.out)
                    clear hc183
                    refine hK.out _ _ (range_below hR B183.out) (fun _ => ?_)
                    try simp only [Act.put, List.setIfInBounds_toArray, List.set_cons_zero, List.set_cons_succ]
                    clear hK K
                    refine wpAnyH_ready (rs := [10]) (by kernel_rfl) (by simp) ?_
                    refine AllReadyH.cons rfl (fun K hK => ?_) AllReadyH.nil
                    · rw [if_pos (by rfl)]
                      refine wp_st (.tmp 8) (.tmp 28) rfl rfl g163 zeros (T [d]) R183.out (by simp [zeros]) (T_len _) rfl rfl ?_
                      intro U184 R184 hc184
                      have B184 := Lib.hid (Chg.below B183.out B183.out.size (by omega) hc184)
                      have hyy184 := (Array.getElem?_eq_some_iff.1 P183.out).1
                      have P184 := Lib.hid ((hc184.block g182 hyy184 (by omega)).trans P183.out)
                      clear hc184
                      refine hK.out _ _ (range_below hR B184.out) (fun _ => ?_)
                      try simp only [Act.put, List.setIfInBounds_toArray, List.set_cons_zero, List.set_cons_succ]
                      clear hK K
                      refine wpAnyH_done (by kernel_rfl) ?_ _
                      have BF := B184
                      have F7 := P184
                      have F8 := R184
                      go_wp2_with fail
                      go_meet
                      case rel => exact ⟨g182, g163, rfl, rfl, F7, F8, BF⟩
              · rw [if_pos (by rfl)]
                refine wp_al rfl rfl ?_
                intro U185 g185 hbe185 hge185 hlt185 A185
                have B185 := Lib.hid (B180.out.trans (hbe185.mono B180.out.size))
                have hz185 := B180.out.size
                have hy185 := hbe185.size
                have L185 := Lib.hid (L180.out.below hbe185)
                have R185 := Lib.hid (R180.out.below hbe185)
                have P185 := A185
                clear A185
                clear hbe185
                refine hK.out _ _ (range_below hR B185.out) (fun _ => ?_)
                try simp only [Act.put, List.setIfInBounds_toArray, List.set_cons_zero, List.set_cons_succ]
                clear hK K
                refine wpAnyH_ready (rs := [6]) (by kernel_rfl) (by simp) ?_
                refine AllReadyH.cons rfl (fun K hK => ?_) AllReadyH.nil
                · rw [if_pos (by rfl)]
                  go_simp
                  go_at_call 17
                  refine (CB.out U185 g179 B185.out L185.out).mono ?_
                  rintro e U186 ⟨rfl, hbe186⟩
                  have B186 := Lib.hid (B185.out.trans (hbe186.mono B185.out.size))
                  have hz186 := B185.out.size
                  have hy186 := hbe186.size
                  have L186 := Lib.hid (L185.out.below hbe186)
                  have P186 := Lib.hid (P185.out.below hbe186)
                  have R186 := Lib.hid (R185.out.below hbe186)
                  clear hbe186
                  refine hK.out _ _ (range_below hR B186.out) (fun _ => ?_)
                  try simp only [Act.put, List.setIfInBounds_toArray, List.set_cons_zero, List.set_cons_succ]
                  clear hK K
                  refine wpAnyH_ready (rs := [9]) (by kernel_rfl) (by simp) ?_
                  refine AllReadyH.cons rfl (fun K hK => ?_) AllReadyH.nil
                  · rw [if_pos (by rfl)]
                    refine wp_st (.tmp 7) (.tmp 25) rfl rfl g185 zeros (T (l.take m)) P186.out (by simp [zeros]) (T_len _) rfl rfl ?_
                    intro U187 P187 hc187
                    have B187 := Lib.hid (Chg.below B186.out B186.out.size (by omega) hc187)
                    have hyy187 := (Array.getElem?_eq_some_iff.1 R186.out).1
                    have R187 := Lib.hid ((hc187.block g163 hyy187 (by omega)).trans R186.out)
                    clear hc187
                    refine hK.out _ _ (range_below hR B187.out) (fun _ => ?_)
                    try simp only [Act.put, List.setIfInBounds_toArray, List.set_cons_zero, List.set_cons_succ]
                    clear hK K
                    refine wpAnyH_ready (rs := [10]) (by kernel_rfl) (by simp) ?_
                    refine AllReadyH.cons rfl (fun K hK => ?_) AllReadyH.nil
                    · rw [if_pos (by rfl)]
                      refine wp_st (.tmp 8) (.tmp 28) rfl rfl g163 zeros (T [d]) R187.out (by simp [zeros]) (T_len _) rfl rfl ?_
                      intro U188 R188 hc188
                      have B188 := Lib.hid (Chg.below B187.out B187.out.size (by omega) hc188)
                      have hyy188 := (Array.getElem?_eq_some_iff.1 P187.out).1
                      have P188 := Lib.hid ((hc188.block g185 hyy188 (by omega)).trans P187.out)
                      clear hc188
                      refine hK.out _ _ (range_below hR B188.out) (fun _ => ?_)
                      try simp only [Act.put, List.setIfInBounds_toArray, List.set_cons_zero, List.set_cons_succ]
                      clear hK K
                      refine wpAnyH_done (by kernel_rfl) ?_ _
                      have BF := B188
                      have F7 := P188
                      have F8 := R188
                      go_wp2_with fail
                      go_meet
                      case rel => exact ⟨g185, g163, rfl, rfl, F7, F8, BF⟩
            · rw [if_pos (by rfl)]
              refine wp_al rfl rfl ?_
              intro U189 g189 hbe189 hge189 hlt189 A189
              have B189 := Lib.hid (B179.out.trans (hbe189.mono B179.out.size))
              have hz189 := B179.out.size
              have hy189 := hbe189.size
              have L189 := Lib.hid (L179.out.below hbe189)
              have R189 := Lib.hid (R179.out.below hbe189)
              have P189 := A189
              clear A189
              clear hbe189
              refine hK.out _ _ (range_below hR B189.out) (fun _ => ?_)
              try simp only [Act.put, List.setIfInBounds_toArray, List.set_cons_zero, List.set_cons_succ]
              clear hK K
              refine wpAnyH_ready (rs := [3]) (by kernel_rfl) (by simp) ?_
              refine AllReadyH.cons rfl (fun K hK => ?_) AllReadyH.nil
              · rw [if_pos (by rfl)]
                go_simp
                go_at_call 17
                refine (CA.out U189 B189.out).mono ?_
                rintro e U190 ⟨rfl, hbe190⟩
                have B190 := Lib.hid (B189.out.trans (hbe190.mono B189.out.size))
                have hz190 := B189.out.size
                have hy190 := hbe190.size
                have L190 := Lib.hid (L189.out.below hbe190)
                have P190 := Lib.hid (P189.out.below hbe190)
                have R190 := Lib.hid (R189.out.below hbe190)
                clear hbe190
                refine hK.out _ _ (range_below hR B190.out) (fun _ => ?_)
                try simp only [Act.put, List.setIfInBounds_toArray, List.set_cons_zero, List.set_cons_succ]
                clear hK K
                refine wpAnyH_ready (rs := [6]) (by kernel_rfl) (by simp) ?_
                refine AllReadyH.cons rfl (fun K hK => ?_) AllReadyH.nil
                · rw [if_pos (by rfl)]
                  go_simp
                  go_at_call 17
                  refine (CB.out U190 g179 B190.out L190.out).mono ?_
                  rintro e U191 ⟨rfl, hbe191⟩
                  have B191 := Lib.hid (B190.out.trans (hbe191.mono B190.out.size))
                  have hz191 := B190.out.size
                  have hy191 := hbe191.size
                  have L191 := Lib.hid (L190.out.below hbe191)
                  have P191 := Lib.hid (P190.out.below hbe191)
                  have R191 := Lib.hid (R190.out.below hbe191)
                  clear hbe191
                  refine hK.out _ _ (range_below hR B191.out) (fun _ => ?_)
                  try simp only [Act.put, List.setIfInBounds_toArray, List.set_cons_zero, List.set_cons_succ]
                  clear hK K
                  refine wpAnyH_ready (rs := [9]) (by kernel_rfl) (by simp) ?_
                  refine AllReadyH.cons rfl (fun K hK => ?_) AllReadyH.nil
                  · rw [if_pos (by rfl)]
                    refine wp_st (.tmp 7) (.tmp 25) rfl rfl g189 zeros (T (l.take m)) P191.out (by simp [zeros]) (T_len _) rfl rfl ?_
                    intro U192 P192 hc192
                    have B192 := Lib.hid (Chg.below B191.out B191.out.size (by omega) hc192)
                    have hyy192 := (Array.getElem?_eq_some_iff.1 R191.out).1
                    have R192 := Lib.hid ((hc192.block g163 hyy192 (by omega)).trans R191.out)
                    clear hc192
                    refine hK.out _ _ (range_below hR B192.out) (fun _ => ?_)
                    try simp only [Act.put, List.setIfInBounds_toArray, List.set_cons_zero, List.set_cons_succ]
                    clear hK K
                    refine wpAnyH_ready (rs := [10]) (by kernel_rfl) (by simp) ?_
                    refine AllReadyH.cons rfl (fun K hK => ?_) AllReadyH.nil
                    · rw [if_pos (by rfl)]
                      refine wp_st (.tmp 8) (.tmp 28) rfl rfl g163 zeros (T [d]) R192.out (by simp [zeros]) (T_len _) rfl rfl ?_
                      intro U193 R193 hc193
                      have B193 := Lib.hid (Chg.below B192.out B192.out.size (by omega) hc193)
                      have hyy193 := (Array.getElem?_eq_some_iff.1 P192.out).1
                      have P193 := Lib.hid ((hc193.block g189 hyy193 (by omega)).trans P192.out)
                      clear hc193
                      refine hK.out _ _ (range_below hR B193.out) (fun _ => ?_)
                      try simp only [Act.put, List.setIfInBounds_toArray, List.set_cons_zero, List.set_cons_succ]
                      clear hK K
                      refine wpAnyH_done (by kernel_rfl) ?_ _
                      have BF := B193
                      have F7 := P193
                      have F8 := R193
                      go_wp2_with fail
                      go_meet
                      case rel => exact ⟨g189, g163, rfl, rfl, F7, F8, BF⟩
          · rw [if_pos (by rfl)]
            refine wp_al rfl rfl ?_
            intro U194 g194 hbe194 hge194 hlt194 A194
            have B194 := Lib.hid (B163.out.trans (hbe194.mono B163.out.size))
            have hz194 := B163.out.size
            have hy194 := hbe194.size
            have R194 := Lib.hid (R163.out.below hbe194)
            have P194 := A194
            clear A194
            clear hbe194
            refine hK.out _ _ (range_below hR B194.out) (fun _ => ?_)
            try simp only [Act.put, List.setIfInBounds_toArray, List.set_cons_zero, List.set_cons_succ]
            clear hK K
            refine wpAnyH_ready (rs := [3, 5]) (by kernel_rfl) (by simp) ?_
            refine AllReadyH.cons rfl (fun K hK => ?_) (AllReadyH.cons rfl (fun K hK => ?_) AllReadyH.nil)
            · rw [if_pos (by rfl)]
              go_simp
              go_at_call 17
              refine (CA.out U194 B194.out).mono ?_
              rintro e U195 ⟨rfl, hbe195⟩
              have B195 := Lib.hid (B194.out.trans (hbe195.mono B194.out.size))
              have hz195 := B194.out.size
              have hy195 := hbe195.size
              have P195 := Lib.hid (P194.out.below hbe195)
              have R195 := Lib.hid (R194.out.below hbe195)
              clear hbe195
              refine hK.out _ _ (range_below hR B195.out) (fun _ => ?_)
              try simp only [Act.put, List.setIfInBounds_toArray, List.set_cons_zero, List.set_cons_succ]
              clear hK K
              refine wpAnyH_ready (rs := [5]) (by kernel_rfl) (by simp) ?_
              refine AllReadyH.cons rfl (fun K hK => ?_) AllReadyH.nil
              · rw [if_pos (by rfl)]
                refine wp_b1 rfl 26 rfl d rfl HD32.out ?_
                intro U196 g196 hbe196 hge196 hlt196 L196x
                have B196 := Lib.hid (B195.out.trans (hbe196.mono B195.out.size))
                have hz196 := B195.out.size
                have hy196 := hbe196.size
                have P196 := Lib.hid (P195.out.below hbe196)
                have R196 := Lib.hid (R195.out.below hbe196)
                have L196 := L196x
                clear L196x
                clear hbe196
                refine hK.out _ _ (range_below hR B196.out) (fun _ => ?_)
                try simp only [Act.put, List.setIfInBounds_toArray, List.set_cons_zero, List.set_cons_succ]
                clear hK K
                refine wpAnyH_ready (rs := [6]) (by kernel_rfl) (by simp) ?_
                refine AllReadyH.cons rfl (fun K hK => ?_) AllReadyH.nil
                · rw [if_pos (by rfl)]
                  go_simp
                  go_at_call 17
                  refine (CB.out U196 g196 B196.out L196.out).mono ?_
                  rintro e U197 ⟨rfl, hbe197⟩
                  have B197 := Lib.hid (B196.out.trans (hbe197.mono B196.out.size))
                  have hz197 := B196.out.size
                  have hy197 := hbe197.size
                  have L197 := Lib.hid (L196.out.below hbe197)
                  have P197 := Lib.hid (P196.out.below hbe197)
                  have R197 := Lib.hid (R196.out.below hbe197)
                  clear hbe197
                  refine hK.out _ _ (range_below hR B197.out) (fun _ => ?_)
                  try simp only [Act.put, List.setIfInBounds_toArray, List.set_cons_zero, List.set_cons_succ]
                  clear hK K
                  refine wpAnyH_ready (rs := [9]) (by kernel_rfl) (by simp) ?_
                  refine AllReadyH.cons rfl (fun K hK => ?_) AllReadyH.nil
                  · rw [if_pos (by rfl)]
                    refine wp_st (.tmp 7) (.tmp 25) rfl rfl g194 zeros (T (l.take m)) P197.out (by simp [zeros]) (T_len _) rfl rfl ?_
                    intro U198 P198 hc198
                    have B198 := Lib.hid (Chg.below B197.out B197.out.size (by omega) hc198)
                    have hyy198 := (Array.getElem?_eq_some_iff.1 R197.out).1
                    have R198 := Lib.hid ((hc198.block g163 hyy198 (by omega)).trans R197.out)
                    clear hc198
                    refine hK.out _ _ (range_below hR B198.out) (fun _ => ?_)
                    try simp only [Act.put, List.setIfInBounds_toArray, List.set_cons_zero, List.set_cons_succ]
                    clear hK K
                    refine wpAnyH_ready (rs := [10]) (by kernel_rfl) (by simp) ?_
                    refine AllReadyH.cons rfl (fun K hK => ?_) AllReadyH.nil
                    · rw [if_pos (by rfl)]
                      refine wp_st (.tmp 8) (.tmp 28) rfl rfl g163 zeros (T [d]) R198.out (by simp [zeros]) (T_len _) rfl rfl ?_
                      intro U199 R199 hc199
                      have B199 := Lib.hid (Chg.below B198.out B198.out.size (by omega) hc199)
                      have hyy199 := (Array.getElem?_eq_some_iff.1 P198.out).1
                      have P199 := Lib.hid ((hc199.block g194 hyy199 (by omega)).trans P198.out)
                      clear hc199
                      refine hK.out _ _ (range_below hR B199.out) (fun _ => ?_)
                      try simp only [Act.put, List.setIfInBounds_toArray, List.set_cons_zero, List.set_cons_succ]
                      clear hK K
                      refine wpAnyH_done (by kernel_rfl) ?_ _
                      have BF := B199
                      have F7 := P199
                      have F8 := R199
                      go_wp2_with fail
                      go_meet
                      case rel => exact ⟨g194, g163, rfl, rfl, F7, F8, BF⟩
            · rw [if_pos (by rfl)]
              refine wp_b1 rfl 26 rfl d rfl HD32.out ?_
              intro U200 g200 hbe200 hge200 hlt200 L200x
              have B200 := Lib.hid (B194.out.trans (hbe200.mono B194.out.size))
              have hz200 := B194.out.size
              have hy200 := hbe200.size
              have P200 := Lib.hid (P194.out.below hbe200)
              have R200 := Lib.hid (R194.out.below hbe200)
              have L200 := L200x
              clear L200x
              clear hbe200
              refine hK.out _ _ (range_below hR B200.out) (fun _ => ?_)
              try simp only [Act.put, List.setIfInBounds_toArray, List.set_cons_zero, List.set_cons_succ]
              clear hK K
              refine wpAnyH_ready (rs := [3]) (by kernel_rfl) (by simp) ?_
              refine AllReadyH.cons rfl (fun K hK => ?_) AllReadyH.nil
              · rw [if_pos (by rfl)]
                go_simp
                go_at_call 17
                refine (CA.out U200 B200.out).mono ?_
                rintro e U201 ⟨rfl, hbe201⟩
                have B201 := Lib.hid (B200.out.trans (hbe201.mono B200.out.size))
                have hz201 := B200.out.size
                have hy201 := hbe201.size
                have L201 := Lib.hid (L200.out.below hbe201)
                have P201 := Lib.hid (P200.out.below hbe201)
                have R201 := Lib.hid (R200.out.below hbe201)
                clear hbe201
                refine hK.out _ _ (range_below hR B201.out) (fun _ => ?_)
                try simp only [Act.put, List.setIfInBounds_toArray, List.set_cons_zero, List.set_cons_succ]
                clear hK K
                refine wpAnyH_ready (rs := [6]) (by kernel_rfl) (by simp) ?_
                refine AllReadyH.cons rfl (fun K hK => ?_) AllReadyH.nil
                · rw [if_pos (by rfl)]
                  go_simp
                  go_at_call 17
                  refine (CB.out U201 g200 B201.out L201.out).mono ?_
                  rintro e U202 ⟨rfl, hbe202⟩
                  have B202 := Lib.hid (B201.out.trans (hbe202.mono B201.out.size))
                  have hz202 := B201.out.size
                  have hy202 := hbe202.size
                  have L202 := Lib.hid (L201.out.below hbe202)
                  have P202 := Lib.hid (P201.out.below hbe202)
                  have R202 := Lib.hid (R201.out.below hbe202)
                  clear hbe202
                  refine hK.out _ _ (range_below hR B202.out) (fun _ => ?_)
                  try simp only [Act.put, List.setIfInBounds_toArray, List.set_cons_zero, List.set_cons_succ]
                  clear hK K
                  refine wpAnyH_ready (rs := [9]) (by kernel_rfl) (by simp) ?_
                  refine AllReadyH.cons rfl (fun K hK => ?_) AllReadyH.nil
                  · rw [if_pos (by rfl)]
                    refine wp_st (.tmp 7) (.tmp 25) rfl rfl g194 zeros (T (l.take m)) P202.out (by simp [zeros]) (T_len _) rfl rfl ?_
                    intro U203 P203 hc203
                    have B203 := Lib.hid (Chg.below B202.out B202.out.size (by omega) hc203)
                    have hyy203 := (Array.getElem?_eq_some_iff.1 R202.out).1
                    have R203 := Lib.hid ((hc203.block g163 hyy203 (by omega)).trans R202.out)
                    clear hc203
                    refine hK.out _ _ (range_below hR B203.out) (fun _ => ?_)
                    try simp only [Act.put, List.setIfInBounds_toArray, List.set_cons_zero, List.set_cons_succ]
                    clear hK K
                    refine wpAnyH_ready (rs := [10]) (by kernel_rfl) (by simp) ?_
                    refine AllReadyH.cons rfl (fun K hK => ?_) AllReadyH.nil
                    · rw [if_pos (by rfl)]
                      refine wp_st (.tmp 8) (.tmp 28) rfl rfl g163 zeros (T [d]) R203.out (by simp [zeros]) (T_len _) rfl rfl ?_
                      intro U204 R204 hc204
                      have B204 := Lib.hid (Chg.below B203.out B203.out.size (by omega) hc204)
                      have hyy204 := (Array.getElem?_eq_some_iff.1 P203.out).1
                      have P204 := Lib.hid ((hc204.block g194 hyy204 (by omega)).trans P203.out)
                      clear hc204
                      refine hK.out _ _ (range_below hR B204.out) (fun _ => ?_)
                      try simp only [Act.put, List.setIfInBounds_toArray, List.set_cons_zero, List.set_cons_succ]
                      clear hK K
                      refine wpAnyH_done (by kernel_rfl) ?_ _
                      have BF := B204
                      have F7 := P204
                      have F8 := R204
                      go_wp2_with fail
                      go_meet
                      case rel => exact ⟨g194, g163, rfl, rfl, F7, F8, BF⟩
      case rest =>
        obtain ⟨wm, hwm⟩ : ∃ wm, wm = wc := ⟨_, rfl⟩
        subst hwm
        obtain ⟨ga, gb, rfl, rfl, hga, hgb, hbc⟩ := hcut
        have HLc := Lib.hid (HLr.out.below hbc.out)
        have HDc := Lib.hid (HDr.out.below hbc.out)
        have HKc := Lib.hid (HKr.out.below hbc.out)
        have hprec := Lib.hid (HLc.out.pre m (by omega))
        have H32m := Lib.hid (H32.out.take m)
        have HBc := Lib.hid ((HB2.out.trans (hbr.out.mono HB2.out.size)).trans (hbc.out.mono (HB2.out.trans (hbr.out.mono HB2.out.size)).size))
        go_upto_region 8 with fail
        go_cut [9] from 16 to 67 (fun s9 wd => ∃ (q : Option Addr) (c : Nat), s9 = .slice q (m + 1) c ∧ Hid (LD wd (.slice q (m + 1) c) (l.take m ++ [d])) ∧ Hid (Below wm.heap.size wm wd))
        case first =>
          have hR := dg_range HDc.out
          have B2 := Lib.hid (below_drew (Below.refl wm.heap.size wm))
          have hsd : (Tryd.prog.info? 26).map (·.size) = some (d.map byt).length := by rw [size26, List.length_map, HD32.out]
          have hlen : (l.take m ++ [d]).length = m + 1 := by rw [List.length_append, HTK.out]; rfl
          have HLEN := Lib.hid hlen
          clear hlen
          refine wp_region_held_drew (S := fun w' => w'.rangeAt g3 0 (d.map byt)) (by kernel_rfl) hR (fun hHeld => ?_)
          refine take_at (i := 1) (k := 30) (v := .slice (some ⟨b, o, none⟩) n cap) rfl rfl (by kernel_rfl) (by kernel_rfl) (by kernel_rfl) (fun _ _ _ h => h) (Or.inl ⟨by rfl, fun w _ => rfl⟩) hHeld ?_
          try simp only [Act.put, List.setIfInBounds_toArray, List.set_cons_zero, List.set_cons_succ]
          refine take_at (i := 2) (k := 31) (v := .int .i64 (m : Int)) rfl rfl (by kernel_rfl) (by kernel_rfl) (by kernel_rfl) (fun _ _ _ h => h) (Or.inl ⟨by rfl, fun w _ => rfl⟩) hHeld ?_
          try simp only [Act.put, List.setIfInBounds_toArray, List.set_cons_zero, List.set_cons_succ]
          refine take_at (i := 3) (k := 32) (v := .slice (some ⟨b, o, none⟩) m cap) rfl rfl (by kernel_rfl) (by kernel_rfl) (by kernel_rfl) (fun _ _ _ h => h) (Or.inl ⟨by rfl, fun w _ => by go_simp⟩) hHeld ?_
          try simp only [Act.put, List.setIfInBounds_toArray, List.set_cons_zero, List.set_cons_succ]
          refine take_at (i := 5) (k := 34) (v := dgv d) rfl rfl (by kernel_rfl) (by kernel_rfl) (by kernel_rfl) (fun _ _ _ h => h) (yieldsIf_load_mid (by rfl) 26 (.tmp 3) rfl g3 0 rfl (d.map byt) _ (fun w' h => h) Tryd.underlying26 rfl hsd) hHeld ?_
          try simp only [Act.put, List.setIfInBounds_toArray, List.set_cons_zero, List.set_cons_succ]
          clear hHeld
          refine wpAnyH_ready (rs := [0, 6]) (by kernel_rfl) (by simp) ?_
          refine AllReadyH.cons rfl (fun K hK => ?_) (AllReadyH.cons rfl (fun K hK => ?_) AllReadyH.nil)
          · rw [if_pos (by rfl)]
            refine wp_b0 rfl rfl ?_
            intro U3 g3 hbe3 hge3 hlt3 O3
            have B3 := Lib.hid (B2.out.trans (hbe3.mono B2.out.size))
            have hz3 := B2.out.size
            have hy3 := hbe3.size
            have ob3 : ∀ j, (Value.slice (some ⟨g3, 0, none⟩) 0 0).ownBlock = some j → wm.heap.size ≤ j := fun j e => by
              have e' : g3 = j := Option.some.inj e
              subst e'
              exact (by omega)
            clear hbe3
            refine hK.out _ _ (range_below hR B3.out) (fun _ => ?_)
            try simp only [Act.put, List.setIfInBounds_toArray, List.set_cons_zero, List.set_cons_succ]
            clear hK K
            refine wpAnyH_ready (rs := [4, 6]) (by kernel_rfl) (by simp) ?_
            refine AllReadyH.cons rfl (fun K hK => ?_) (AllReadyH.cons rfl (fun K hK => ?_) AllReadyH.nil)
            · rw [if_pos (by rfl)]
              refine wp_ap rfl (.tmp 29) (.tmp 32) rfl (.slice (some ⟨g3, 0, none⟩) 0 0) (.slice (some ⟨b, o, none⟩) m cap) ([] : List (List UInt8)) (l.take m) rfl O3.out rfl (hprec.out.below B3.out) H32m.out (by have := HTK.out; simp; omega) ?_
              intro v4 U4 O4 hg4 hv4
              have B4 := Lib.hid (grown_below B3.out B3.out.size hg4 (fun j e => (ob3 j e)))
              have hz4 := B3.out.size
              have hy4 := hg4.size
              have ob4 : ∀ j, v4.ownBlock = some j → wm.heap.size ≤ j := fun j e => by
                rcases hv4 with h | ⟨j', h, h'⟩
                · rw [h] at e
                  have h0 := ob3 j e
                  exact h0
                · rw [h] at e
                  have e' : j' = j := Option.some.inj e
                  subst e'
                  exact (by omega)
              clear hg4 hv4
              refine hK.out _ _ (range_below hR B4.out) (fun _ => ?_)
              try simp only [Act.put, List.setIfInBounds_toArray, List.set_cons_zero, List.set_cons_succ]
              clear hK K
              refine wpAnyH_ready (rs := [6]) (by kernel_rfl) (by simp) ?_
              refine AllReadyH.cons rfl (fun K hK => ?_) AllReadyH.nil
              · rw [if_pos (by rfl)]
                refine wp_b1 rfl 34 rfl d rfl HD32.out ?_
                intro U5 g5 hbe5 hge5 hlt5 L5
                have B5 := Lib.hid (B4.out.trans (hbe5.mono B4.out.size))
                have hz5 := B4.out.size
                have O5 := Lib.hid (OwnN.later O4.out hbe5)
                have hy5 := hbe5.size
                have ob5 : ∀ j, (v4 : Value).ownBlock = some j → wm.heap.size ≤ j ∧ g5 ≠ j := fun j e => by
                  have h0 := ob4 j e
                  have h1 := OwnN.lt O4.out e
                  exact ⟨h0, by omega⟩
                clear hbe5
                refine hK.out _ _ (range_below hR B5.out) (fun _ => ?_)
                try simp only [Act.put, List.setIfInBounds_toArray, List.set_cons_zero, List.set_cons_succ]
                clear hK K
                refine wpAnyH_ready (rs := [7]) (by kernel_rfl) (by simp) ?_
                refine AllReadyH.cons rfl (fun K hK => ?_) AllReadyH.nil
                · rw [if_pos (by rfl)]
                  refine wp_ap rfl (.tmp 33) (.tmp 35) rfl (v4) (.slice (some ⟨g5, 0, none⟩) 1 1) (([] : List (List UInt8)) ++ (l.take m)) [d] rfl O5.out rfl L5.out HD1.out (by have := HTK.out; simp; omega) ?_
                  intro v6 U6 O6 hg6 hv6
                  have B6 := Lib.hid (grown_below B5.out B5.out.size hg6 (fun j e => (ob5 j e).1))
                  have hz6 := B5.out.size
                  have hy6 := hg6.size
                  have ob6 : ∀ j, v6.ownBlock = some j → wm.heap.size ≤ j := fun j e => by
                    rcases hv6 with h | ⟨j', h, h'⟩
                    · rw [h] at e
                      have h0 := ob5 j e
                      exact h0.1
                    · rw [h] at e
                      have e' : j' = j := Option.some.inj e
                      subst e'
                      exact (by omega)
                  clear hg6 hv6
                  refine hK.out _ _ (range_below hR B6.out) (fun _ => ?_)
                  try simp only [Act.put, List.setIfInBounds_toArray, List.set_cons_zero, List.set_cons_succ]
                  clear hK K
                  refine take_at (i := 8) (k := 9) (v := v6) rfl rfl (by kernel_rfl) (by kernel_rfl) (by kernel_rfl) (fun _ _ _ h => h) (Or.inl ⟨by rfl, fun w _ => rfl⟩) (range_below hR B6.out) ?_
                  try simp only [Act.put, List.setIfInBounds_toArray, List.set_cons_zero, List.set_cons_succ]
                  refine wpAnyH_done (by kernel_rfl) ?_ _
                  have BF := B6
                  have hlF := ownN_ld (l := l.take m ++ [d]) O6.out (H32m.out.append HD1.out)
                  obtain ⟨qF, cF, eF⟩ : ∃ q c, v6 = .slice q (m + 1) c := by
                    obtain ⟨b', c', q', e', _⟩ := hlF
                    exact ⟨q', c', by rw [e', HLEN.out]⟩
                  rw [eF] at hlF ⊢
                  go_wp2_with fail
                  go_meet
                  case rel => exact ⟨qF, cF, rfl, Lib.hid hlF, BF⟩
            · rw [if_pos (by rfl)]
              refine wp_b1 rfl 34 rfl d rfl HD32.out ?_
              intro U7 g7 hbe7 hge7 hlt7 L7
              have B7 := Lib.hid (B3.out.trans (hbe7.mono B3.out.size))
              have hz7 := B3.out.size
              have O7 := Lib.hid (OwnN.later O3.out hbe7)
              have hy7 := hbe7.size
              have ob7 : ∀ j, (.slice (some ⟨g3, 0, none⟩) 0 0 : Value).ownBlock = some j → wm.heap.size ≤ j ∧ g7 ≠ j := fun j e => by
                have h0 := ob3 j e
                have h1 := OwnN.lt O3.out e
                exact ⟨h0, by omega⟩
              clear hbe7
              refine hK.out _ _ (range_below hR B7.out) (fun _ => ?_)
              try simp only [Act.put, List.setIfInBounds_toArray, List.set_cons_zero, List.set_cons_succ]
              clear hK K
              refine wpAnyH_ready (rs := [4]) (by kernel_rfl) (by simp) ?_
              refine AllReadyH.cons rfl (fun K hK => ?_) AllReadyH.nil
              · rw [if_pos (by rfl)]
                refine wp_ap rfl (.tmp 29) (.tmp 32) rfl (.slice (some ⟨g3, 0, none⟩) 0 0) (.slice (some ⟨b, o, none⟩) m cap) ([] : List (List UInt8)) (l.take m) rfl O7.out rfl (hprec.out.below B7.out) H32m.out (by have := HTK.out; simp; omega) ?_
                intro v8 U8 O8 hg8 hv8
                have B8 := Lib.hid (grown_below B7.out B7.out.size hg8 (fun j e => (ob7 j e).1))
                have hz8 := B7.out.size
                have hy8 := hg8.size
                have L8 := Lib.hid (ld_grown L7.out hg8 (fun j e => (ob7 j e).2))
                have ob8 : ∀ j, v8.ownBlock = some j → wm.heap.size ≤ j ∧ g7 ≠ j := fun j e => by
                  rcases hv8 with h | ⟨j', h, h'⟩
                  · rw [h] at e
                    have h0 := ob7 j e
                    exact ⟨h0.1, h0.2⟩
                  · rw [h] at e
                    have e' : j' = j := Option.some.inj e
                    subst e'
                    exact ⟨by omega, by omega⟩
                clear hg8 hv8
                refine hK.out _ _ (range_below hR B8.out) (fun _ => ?_)
                try simp only [Act.put, List.setIfInBounds_toArray, List.set_cons_zero, List.set_cons_succ]
                clear hK K
                refine wpAnyH_ready (rs := [7]) (by kernel_rfl) (by simp) ?_
                refine AllReadyH.cons rfl (fun K hK => ?_) AllReadyH.nil
                · rw [if_pos (by rfl)]
                  refine wp_ap rfl (.tmp 33) (.tmp 35) rfl (v8) (.slice (some ⟨g7, 0, none⟩) 1 1) (([] : List (List UInt8)) ++ (l.take m)) [d] rfl O8.out rfl L8.out HD1.out (by have := HTK.out; simp; omega) ?_
                  intro v9 U9 O9 hg9 hv9
                  have B9 := Lib.hid (grown_below B8.out B8.out.size hg9 (fun j e => (ob8 j e).1))
                  have hz9 := B8.out.size
                  have hy9 := hg9.size
                  have ob9 : ∀ j, v9.ownBlock = some j → wm.heap.size ≤ j := fun j e => by
                    rcases hv9 with h | ⟨j', h, h'⟩
                    · rw [h] at e
                      have h0 := ob8 j e
                      exact h0.1
                    · rw [h] at e
                      have e' : j' = j := Option.some.inj e
                      subst e'
                      exact (by omega)
                  clear hg9 hv9
                  refine hK.out _ _ (range_below hR B9.out) (fun _ => ?_)
                  try simp only [Act.put, List.setIfInBounds_toArray, List.set_cons_zero, List.set_cons_succ]
                  clear hK K
                  refine take_at (i := 8) (k := 9) (v := v9) rfl rfl (by kernel_rfl) (by kernel_rfl) (by kernel_rfl) (fun _ _ _ h => h) (Or.inl ⟨by rfl, fun w _ => rfl⟩) (range_below hR B9.out) ?_
                  try simp only [Act.put, List.setIfInBounds_toArray, List.set_cons_zero, List.set_cons_succ]
                  refine wpAnyH_done (by kernel_rfl) ?_ _
                  have BF := B9
                  have hlF := ownN_ld (l := l.take m ++ [d]) O9.out (H32m.out.append HD1.out)
                  obtain ⟨qF, cF, eF⟩ : ∃ q c, v9 = .slice q (m + 1) c := by
                    obtain ⟨b', c', q', e', _⟩ := hlF
                    exact ⟨q', c', by rw [e', HLEN.out]⟩
                  rw [eF] at hlF ⊢
                  go_wp2_with fail
                  go_meet
                  case rel => exact ⟨qF, cF, rfl, Lib.hid hlF, BF⟩
          · rw [if_pos (by rfl)]
            refine wp_b1 rfl 34 rfl d rfl HD32.out ?_
            intro U10 g10 hbe10 hge10 hlt10 L10
            have B10 := Lib.hid (B2.out.trans (hbe10.mono B2.out.size))
            have hz10 := B2.out.size
            have hy10 := hbe10.size
            clear hbe10
            refine hK.out _ _ (range_below hR B10.out) (fun _ => ?_)
            try simp only [Act.put, List.setIfInBounds_toArray, List.set_cons_zero, List.set_cons_succ]
            clear hK K
            refine wpAnyH_ready (rs := [0]) (by kernel_rfl) (by simp) ?_
            refine AllReadyH.cons rfl (fun K hK => ?_) AllReadyH.nil
            · rw [if_pos (by rfl)]
              refine wp_b0 rfl rfl ?_
              intro U11 g11 hbe11 hge11 hlt11 O11
              have B11 := Lib.hid (B10.out.trans (hbe11.mono B10.out.size))
              have hz11 := B10.out.size
              have L11 := Lib.hid (L10.out.below hbe11)
              have hy11 := hbe11.size
              have ob11 : ∀ j, (Value.slice (some ⟨g11, 0, none⟩) 0 0).ownBlock = some j → wm.heap.size ≤ j ∧ g10 ≠ j := fun j e => by
                have e' : g11 = j := Option.some.inj e
                subst e'
                exact ⟨by omega, by omega⟩
              clear hbe11
              refine hK.out _ _ (range_below hR B11.out) (fun _ => ?_)
              try simp only [Act.put, List.setIfInBounds_toArray, List.set_cons_zero, List.set_cons_succ]
              clear hK K
              refine wpAnyH_ready (rs := [4]) (by kernel_rfl) (by simp) ?_
              refine AllReadyH.cons rfl (fun K hK => ?_) AllReadyH.nil
              · rw [if_pos (by rfl)]
                refine wp_ap rfl (.tmp 29) (.tmp 32) rfl (.slice (some ⟨g11, 0, none⟩) 0 0) (.slice (some ⟨b, o, none⟩) m cap) ([] : List (List UInt8)) (l.take m) rfl O11.out rfl (hprec.out.below B11.out) H32m.out (by have := HTK.out; simp; omega) ?_
                intro v12 U12 O12 hg12 hv12
                have B12 := Lib.hid (grown_below B11.out B11.out.size hg12 (fun j e => (ob11 j e).1))
                have hz12 := B11.out.size
                have hy12 := hg12.size
                have L12 := Lib.hid (ld_grown L11.out hg12 (fun j e => (ob11 j e).2))
                have ob12 : ∀ j, v12.ownBlock = some j → wm.heap.size ≤ j ∧ g10 ≠ j := fun j e => by
                  rcases hv12 with h | ⟨j', h, h'⟩
                  · rw [h] at e
                    have h0 := ob11 j e
                    exact ⟨h0.1, h0.2⟩
                  · rw [h] at e
                    have e' : j' = j := Option.some.inj e
                    subst e'
                    exact ⟨by omega, by omega⟩
                clear hg12 hv12
                refine hK.out _ _ (range_below hR B12.out) (fun _ => ?_)
                try simp only [Act.put, List.setIfInBounds_toArray, List.set_cons_zero, List.set_cons_succ]
                clear hK K
                refine wpAnyH_ready (rs := [7]) (by kernel_rfl) (by simp) ?_
                refine AllReadyH.cons rfl (fun K hK => ?_) AllReadyH.nil
                · rw [if_pos (by rfl)]
                  refine wp_ap rfl (.tmp 33) (.tmp 35) rfl (v12) (.slice (some ⟨g10, 0, none⟩) 1 1) (([] : List (List UInt8)) ++ (l.take m)) [d] rfl O12.out rfl L12.out HD1.out (by have := HTK.out; simp; omega) ?_
                  intro v13 U13 O13 hg13 hv13
                  have B13 := Lib.hid (grown_below B12.out B12.out.size hg13 (fun j e => (ob12 j e).1))
                  have hz13 := B12.out.size
                  have hy13 := hg13.size
                  have ob13 : ∀ j, v13.ownBlock = some j → wm.heap.size ≤ j := fun j e => by
                    rcases hv13 with h | ⟨j', h, h'⟩
                    · rw [h] at e
                      have h0 := ob12 j e
                      exact h0.1
                    · rw [h] at e
                      have e' : j' = j := Option.some.inj e
                      subst e'
                      exact (by omega)
                  clear hg13 hv13
                  refine hK.out _ _ (range_below hR B13.out) (fun _ => ?_)
                  try simp only [Act.put, List.setIfInBounds_toArray, List.set_cons_zero, List.set_cons_succ]
                  clear hK K
                  refine take_at (i := 8) (k := 9) (v := v13) rfl rfl (by kernel_rfl) (by kernel_rfl) (by kernel_rfl) (fun _ _ _ h => h) (Or.inl ⟨by rfl, fun w _ => rfl⟩) (range_below hR B13.out) ?_
                  try simp only [Act.put, List.setIfInBounds_toArray, List.set_cons_zero, List.set_cons_succ]
                  refine wpAnyH_done (by kernel_rfl) ?_ _
                  have BF := B13
                  have hlF := ownN_ld (l := l.take m ++ [d]) O13.out (H32m.out.append HD1.out)
                  obtain ⟨qF, cF, eF⟩ : ∃ q c, v13 = .slice q (m + 1) c := by
                    obtain ⟨b', c', q', e', _⟩ := hlF
                    exact ⟨q', c', by rw [e', HLEN.out]⟩
                  rw [eF] at hlF ⊢
                  go_wp2_with fail
                  go_meet
                  case rel => exact ⟨qF, cF, rfl, Lib.hid hlF, BF⟩
        case rest =>
          obtain ⟨wd, hwd⟩ : ∃ wd, wd = wc := ⟨_, rfl⟩
          subst hwd
          obtain ⟨q, c, rfl, hlo, hbd⟩ := hcut
          have HKd := Lib.hid (HKc.out.below hbd.out)
          have HGAd := Lib.hid (hga.out.below hbd.out)
          have HGBd := Lib.hid (hgb.out.below hbd.out)
          have HBd := Lib.hid (HBc.out.trans (hbd.out.mono HBc.out.size))
          have HWd := Lib.hid ((hbr.out.trans (hbc.out.mono hbr.out.size)).trans (hbd.out.mono (hbr.out.trans (hbc.out.mono hbr.out.size)).size))
          have hlen : (l.take m ++ [d]).length = m + 1 := by rw [List.length_append, HTK.out]; rfl
          have hmt : (l.take m).length = 1 ∨ (l.take m).length = 2 ∨ (l.take m).length = 4 ∨ (l.take m).length = 8 ∨ (l.take m).length = 16 ∨ (l.take m).length = 32 := by rw [HTK.out]; exact hmm
          have hpn := PA_next (d := d) hmt
          have htn := T_next (d := d) hmt
          rw [HTK.out] at hpn
          have H32o : Hid (D32 (l.take m ++ [d])) := Lib.hid (H32m.out.append HD1.out)
          have HTN := Lib.hid htn
          have C19 := path_ok (l.take m ++ [d]) m _ wd (by omega) (by omega) H32o.out hlo.out HKd.out
          rw [hpn] at C19
          have C19' := Lib.hid C19
          have HLEN := Lib.hid hlen
          have h65 : m + 1 ≤ 64 := by omega
          clear hpn htn C19 hlen hmt hga hgb HLr HDr HKr hprec HLc HDc HKc CA CB
          go_wp2_with fail
          refine C19'.out.mono ?_
          rintro e w5 ⟨vp, rfl, hop, hb5, _⟩
          have hlp := ownN_ld (l := [T (l.take m)]) hop (fun x hx => by simp at hx; rw [hx]; exact T_len _)
          obtain ⟨pb, po, c1, rfl⟩ : ∃ pb po c1, vp = .slice (some ⟨pb, po, none⟩) 1 c1 := by
            obtain ⟨b', c', q', e', _, _, _, h4⟩ := hlp
            rcases h4 with h4 | ⟨o', h5, _⟩
            · cases h4
            · rw [h5] at e'
              exact ⟨_, _, _, e'⟩
          have hRp := hlp.at (fun x hx => by simp at hx; rw [hx]; exact T_len _) 0 (T (l.take m)) rfl
          rw [Nat.zero_mul, Nat.add_zero] at hRp
          have HGA := Lib.hid (HGAd.out.below hb5)
          have HGB := Lib.hid (HGBd.out.below hb5)
          have hRa := dg_range HGA.out
          have HK5 := Lib.hid (HKd.out.below hb5)
          have HW5 := Lib.hid (HWd.out.trans (hb5.mono HWd.out.size))
          have hlo5 := hlo.out.below hb5
          have C17 := Lib.hid (fun (U : World) (hb : Below w5.heap.size w5 U) => tree_any (l.take m ++ [d]) _ U (by rw [HLEN.out]; exact h65) H32o.out (hlo5.below hb) (HK5.out.below hb))
          clear hlp hop hb5 hlo5 C19' HGAd HGBd
          go_wp2_with fail
          have heq : ∀ w, (Op.equalIn 10000 26 (dgv (T (l.take m ++ [d]))) (dgv (T (l.take m ++ [d])))).run Tryd.prog w = .ok true w := fun w => by rw [dg_equal _ _ (T_len _) (T_len _), beq_self_eq_true]
          have heq2 : ∀ w, (Op.equalIn 10000 26 (dgv (T (l.take m))) (dgv (T (l.take m)))).run Tryd.prog w = .ok true w := fun w => by rw [dg_equal _ _ (T_len _) (T_len _), beq_self_eq_true]
          have hsTA : (Tryd.prog.info? 26).map (·.size) = some ((T (l.take m)).map byt).length := by rw [size26, List.length_map, T_len]
          have B5 := Lib.hid (below_drew (Below.refl w5.heap.size w5))
          refine wp_region_held_drew (S := fun w' => w'.rangeAt ga 0 ((T (l.take m)).map byt) ∧ w'.rangeAt pb po ((T (l.take m)).map byt)) (by kernel_rfl) ⟨hRa, hRp⟩ (fun hHeld => ?_)
          refine take_at (i := 0) (k := 43) (v := .slice q (m + 1) c) rfl rfl (by kernel_rfl) (by kernel_rfl) (by kernel_rfl) (fun _ _ _ h => h) (Or.inl ⟨by rfl, fun w _ => rfl⟩) hHeld ?_
          try simp only [Act.put, List.setIfInBounds_toArray, List.set_cons_zero, List.set_cons_succ]
          refine take_at (i := 3) (k := 46) (v := .slice (some ⟨ga, 0, none⟩) 32 32) rfl rfl (by kernel_rfl) (by kernel_rfl) (by kernel_rfl) (fun _ _ _ h => h) (Or.inl ⟨by rfl, fun w _ => by go_simp⟩) hHeld ?_
          try simp only [Act.put, List.setIfInBounds_toArray, List.set_cons_zero, List.set_cons_succ]
          refine take_at (i := 5) (k := 48) (v := .slice (some ⟨gb, 0, none⟩) 32 32) rfl rfl (by kernel_rfl) (by kernel_rfl) (by kernel_rfl) (fun _ _ _ h => h) (Or.inl ⟨by rfl, fun w _ => by go_simp⟩) hHeld ?_
          try simp only [Act.put, List.setIfInBounds_toArray, List.set_cons_zero, List.set_cons_succ]
          clear hHeld
          refine wpAnyH_ready (rs := [1, 2]) (by kernel_rfl) (by simp) ?_
          refine AllReadyH.cons rfl (fun K hK => ?_) (AllReadyH.cons rfl (fun K hK => ?_) AllReadyH.nil)
          · rw [if_pos (by rfl)]
            go_simp
            go_at_call 17
            refine (C17.out w5.drew B5.out).mono ?_
            rintro e U10 ⟨rfl, hbe10⟩
            have B10 := Lib.hid (B5.out.trans (hbe10.mono B5.out.size))
            clear hbe10
            refine hK.out _ _ ⟨range_below hRa B10.out, range_below hRp B10.out⟩ (fun _ => ?_)
            try simp only [Act.put, List.setIfInBounds_toArray, List.set_cons_zero, List.set_cons_succ]
            clear hK K
            refine wpAnyH_ready (rs := [2]) (by kernel_rfl) (by simp) ?_
            refine AllReadyH.cons rfl (fun K hK => ?_) AllReadyH.nil
            rw [if_pos (by rfl)]
            refine wp_b0b rfl rfl ?_
            intro U11 g11 hbe11 hge11 hlt11 O11
            have hz11 := B10.out.size
            have B11 := Lib.hid (B10.out.trans (hbe11.mono B10.out.size))
            have ob11 : ∀ j, (Value.slice (some ⟨g11, 0, none⟩) 0 0).ownBlock = some j → w5.heap.size ≤ j := fun j e => by
              have e' : g11 = j := Option.some.inj e
              subst e'
              omega
            clear hbe11
            refine hK.out _ _ ⟨range_below hRa B11.out, range_below hRp B11.out⟩ (fun _ => ?_)
            try simp only [Act.put, List.setIfInBounds_toArray, List.set_cons_zero, List.set_cons_succ]
            clear hK K
            refine wpAnyH_ready (rs := [4]) (by kernel_rfl) (by simp) ?_
            refine AllReadyH.cons rfl (fun K hK => ?_) AllReadyH.nil
            rw [if_pos (by rfl)]
            refine wp_apb rfl (.tmp 45) (.tmp 46) rfl (.slice (some ⟨g11, 0, none⟩) 0 0) (.slice (some ⟨ga, 0, none⟩) 32 32) ([] : List UInt8) (T (l.take m)) rfl O11.out rfl (dg_bv (HGA.out.below B11.out) (T_len _)) (by simp [T_len]) ?_
            intro v12 U12 O12 hg12 hv12
            have B12 := Lib.hid (grown_below B11.out B11.out.size hg12 ob11)
            have ob12 := own_grown_lt ob11 B11.out.size hv12
            clear hg12 hv12
            refine hK.out _ _ ⟨range_below hRa B12.out, range_below hRp B12.out⟩ (fun _ => ?_)
            try simp only [Act.put, List.setIfInBounds_toArray, List.set_cons_zero, List.set_cons_succ]
            clear hK K
            refine wpAnyH_ready (rs := [6]) (by kernel_rfl) (by simp) ?_
            refine AllReadyH.cons rfl (fun K hK => ?_) AllReadyH.nil
            rw [if_pos (by rfl)]
            refine wp_apb rfl (.tmp 47) (.tmp 48) rfl (v12) (.slice (some ⟨gb, 0, none⟩) 32 32) ([] ++ T (l.take m)) (T [d]) rfl O12.out rfl (dg_bv (HGB.out.below B12.out) (T_len _)) (by simp [T_len]) ?_
            intro v13 U13 O13 hg13 hv13
            have B13 := Lib.hid (grown_below B12.out B12.out.size hg13 ob12)
            have ob13 := own_grown_lt ob12 B12.out.size hv13
            clear hg13 hv13
            refine hK.out _ _ ⟨range_below hRa B13.out, range_below hRp B13.out⟩ (fun _ => ?_)
            try simp only [Act.put, List.setIfInBounds_toArray, List.set_cons_zero, List.set_cons_succ]
            clear hK K
            refine wpAnyH_ready (rs := [7]) (by kernel_rfl) (by simp) ?_
            refine AllReadyH.cons rfl (fun K hK => ?_) AllReadyH.nil
            rw [if_pos (by rfl)]
            go_simp
            go_at_call 14
            refine (tagged_any sNode v13 (([] ++ T (l.take m)) ++ T [d]) U13 (by decide) (own_bv O13.out) (by simp [T_len]) (HK5.out.below B13.out)).mono ?_
            rintro e U14 ⟨rfl, hbe14⟩
            rw [show tg (bts sNode) (([] ++ T (l.take m)) ++ T [d]) = T (l.take m ++ [d]) from HTN.out.symm]
            have B14 := Lib.hid (B13.out.trans (hbe14.mono B13.out.size))
            clear hbe14
            have hHeld : U14.rangeAt ga 0 ((T (l.take m)).map byt) ∧ U14.rangeAt pb po ((T (l.take m)).map byt) := ⟨range_below hRa B14.out, range_below hRp B14.out⟩
            refine hK.out _ _ hHeld (fun _ => ?_)
            try simp only [Act.put, List.setIfInBounds_toArray, List.set_cons_zero, List.set_cons_succ]
            clear hK K
            refine take_at (i := 8) (k := 51) (v := .bool false) rfl rfl (by kernel_rfl) (by kernel_rfl) (by kernel_rfl) (fun _ _ _ h => h) (Or.inl ⟨by rfl, fun w _ => by go_simp⟩) hHeld ?_
            try simp only [Act.put, List.setIfInBounds_toArray, List.set_cons_zero, List.set_cons_succ]
            refine take_at (i := 9) (k := 52) (v := .bool false) rfl rfl (by kernel_rfl) (by kernel_rfl) (by kernel_rfl) (fun _ _ _ h => h) (Or.inl ⟨by rfl, fun w _ => rfl⟩) hHeld ?_
            try simp only [Act.put, List.setIfInBounds_toArray, List.set_cons_zero, List.set_cons_succ]
            refine take_at (i := 10) (k := 53) (v := .int .i64 0) rfl rfl (by kernel_rfl) (by kernel_rfl) (by kernel_rfl) (fun _ _ _ h => h) (Or.inl ⟨by rfl, fun w _ => rfl⟩) hHeld ?_
            try simp only [Act.put, List.setIfInBounds_toArray, List.set_cons_zero, List.set_cons_succ]
            refine take_at (i := 11) (k := 54) (v := .bool false) rfl rfl (by kernel_rfl) (by kernel_rfl) (by kernel_rfl) (fun _ _ _ h => h) (Or.inl ⟨by rfl, fun w _ => by go_simp⟩) hHeld ?_
            try simp only [Act.put, List.setIfInBounds_toArray, List.set_cons_zero, List.set_cons_succ]
            refine take_at (i := 12) (k := 55) (v := .bool false) rfl rfl (by kernel_rfl) (by kernel_rfl) (by kernel_rfl) (fun _ _ _ h => h) (Or.inl ⟨by rfl, fun w _ => by go_simp⟩) hHeld ?_
            try simp only [Act.put, List.setIfInBounds_toArray, List.set_cons_zero, List.set_cons_succ]
            refine take_at (i := 13) (k := 56) (v := .bool false) rfl rfl (by kernel_rfl) (by kernel_rfl) (by kernel_rfl) (fun _ _ _ h => h) (Or.inl ⟨by rfl, fun w _ => rfl⟩) hHeld ?_
            try simp only [Act.put, List.setIfInBounds_toArray, List.set_cons_zero, List.set_cons_succ]
            refine take_at (i := 14) (k := 57) (v := .slice (some ⟨pb, po, none⟩) 1 c1) rfl rfl (by kernel_rfl) (by kernel_rfl) (by kernel_rfl) (fun _ _ _ h => h) (Or.inl ⟨by rfl, fun w _ => rfl⟩) hHeld ?_
            try simp only [Act.put, List.setIfInBounds_toArray, List.set_cons_zero, List.set_cons_succ]
            refine take_at (i := 15) (k := 58) (v := .int .i64 1) rfl rfl (by kernel_rfl) (by kernel_rfl) (by kernel_rfl) (fun _ _ _ h => h) (Or.inl ⟨by rfl, fun w _ => by go_simp⟩) hHeld ?_
            try simp only [Act.put, List.setIfInBounds_toArray, List.set_cons_zero, List.set_cons_succ]
            refine take_at (i := 16) (k := 59) (v := .bool false) rfl rfl (by kernel_rfl) (by kernel_rfl) (by kernel_rfl) (fun _ _ _ h => h) (Or.inl ⟨by rfl, fun w _ => by go_simp⟩) hHeld ?_
            try simp only [Act.put, List.setIfInBounds_toArray, List.set_cons_zero, List.set_cons_succ]
            refine take_at (i := 17) (k := 60) (v := .bool false) rfl rfl (by kernel_rfl) (by kernel_rfl) (by kernel_rfl) (fun _ _ _ h => h) (Or.inl ⟨by rfl, fun w _ => by go_simp⟩) hHeld ?_
            try simp only [Act.put, List.setIfInBounds_toArray, List.set_cons_zero, List.set_cons_succ]
            refine take_at (i := 18) (k := 61) (v := .bool false) rfl rfl (by kernel_rfl) (by kernel_rfl) (by kernel_rfl) (fun _ _ _ h => h) (Or.inl ⟨by rfl, fun w _ => rfl⟩) hHeld ?_
            try simp only [Act.put, List.setIfInBounds_toArray, List.set_cons_zero, List.set_cons_succ]
            refine take_at (i := 19) (k := 62) (v := .slice (some ⟨pb, po, none⟩) 1 c1) rfl rfl (by kernel_rfl) (by kernel_rfl) (by kernel_rfl) (fun _ _ _ h => h) (Or.inl ⟨by rfl, fun w _ => rfl⟩) hHeld ?_
            try simp only [Act.put, List.setIfInBounds_toArray, List.set_cons_zero, List.set_cons_succ]
            refine take_at (i := 20) (k := 63) (v := .pointer (some ⟨pb, po, none⟩)) rfl rfl (by kernel_rfl) (by kernel_rfl) (by kernel_rfl) (fun _ _ _ h => h) (Or.inl ⟨by rfl, fun w _ => by go_simp⟩) hHeld ?_
            try simp only [Act.put, List.setIfInBounds_toArray, List.set_cons_zero, List.set_cons_succ]
            refine take_at (i := 21) (k := 64) (v := dgv (T (l.take m))) rfl rfl (by kernel_rfl) (by kernel_rfl) (by kernel_rfl) (fun _ _ _ h => h) (yieldsIf_load_mid (by rfl) 26 (.tmp 63) rfl pb po rfl ((T (l.take m)).map byt) _ (fun w' h => h.2) Tryd.underlying26 rfl hsTA) hHeld ?_
            try simp only [Act.put, List.setIfInBounds_toArray, List.set_cons_zero, List.set_cons_succ]
            refine take_at (i := 22) (k := 65) (v := dgv (T (l.take m))) rfl rfl (by kernel_rfl) (by kernel_rfl) (by kernel_rfl) (fun _ _ _ h => h) (yieldsIf_load_mid (by rfl) 26 (.tmp 7) rfl ga 0 rfl ((T (l.take m)).map byt) _ (fun w' h => h.1) Tryd.underlying26 rfl hsTA) hHeld ?_
            try simp only [Act.put, List.setIfInBounds_toArray, List.set_cons_zero, List.set_cons_succ]
            refine take_at (i := 23) (k := 66) (v := .bool false) rfl rfl (by kernel_rfl) (by kernel_rfl) (by kernel_rfl) (fun _ _ _ h => h) (Or.inl ⟨by rfl, fun w _ => by go_simp⟩) hHeld ?_
            try simp only [Act.put, List.setIfInBounds_toArray, List.set_cons_zero, List.set_cons_succ]
            refine take_at (i := 24) (k := 67) (v := .bool false) rfl rfl (by kernel_rfl) (by kernel_rfl) (by kernel_rfl) (fun _ _ _ h => h) (Or.inl ⟨by rfl, fun w _ => by go_simp⟩) hHeld ?_
            try simp only [Act.put, List.setIfInBounds_toArray, List.set_cons_zero, List.set_cons_succ]
            refine wpAnyH_done (by kernel_rfl) ?_ _
            have BF := B14
            clear hHeld hRa hRp
            go_wp2_with fail
            go_roundw
            case rel => exact ⟨m * 2, by omega, by go_num, Lib.hid (HW5.out.trans (BF.out.mono HW5.out.size))⟩
            case measure => simp [intOf]; omega
          · rw [if_pos (by rfl)]
            refine wp_b0b rfl rfl ?_
            intro U10 g10 hbe10 hge10 hlt10 O10
            have hz10 := B5.out.size
            have B10 := Lib.hid (B5.out.trans (hbe10.mono B5.out.size))
            have ob10 : ∀ j, (Value.slice (some ⟨g10, 0, none⟩) 0 0).ownBlock = some j → w5.heap.size ≤ j := fun j e => by
              have e' : g10 = j := Option.some.inj e
              subst e'
              omega
            clear hbe10
            refine hK.out _ _ ⟨range_below hRa B10.out, range_below hRp B10.out⟩ (fun _ => ?_)
            try simp only [Act.put, List.setIfInBounds_toArray, List.set_cons_zero, List.set_cons_succ]
            clear hK K
            refine wpAnyH_ready (rs := [1]) (by kernel_rfl) (by simp) ?_
            refine AllReadyH.cons rfl (fun K hK => ?_) AllReadyH.nil
            rw [if_pos (by rfl)]
            go_simp
            go_at_call 17
            refine (C17.out U10 B10.out).mono ?_
            rintro e U11 ⟨rfl, hbe11⟩
            have B11 := Lib.hid (B10.out.trans (hbe11.mono B10.out.size))
            have O11 := Lib.hid (Own.keep O10.out hbe11.size (fun k e => hbe11.block k (Own.lt O10.out e)))
            clear hbe11
            refine hK.out _ _ ⟨range_below hRa B11.out, range_below hRp B11.out⟩ (fun _ => ?_)
            try simp only [Act.put, List.setIfInBounds_toArray, List.set_cons_zero, List.set_cons_succ]
            clear hK K
            refine wpAnyH_ready (rs := [4]) (by kernel_rfl) (by simp) ?_
            refine AllReadyH.cons rfl (fun K hK => ?_) AllReadyH.nil
            rw [if_pos (by rfl)]
            refine wp_apb rfl (.tmp 45) (.tmp 46) rfl (.slice (some ⟨g10, 0, none⟩) 0 0) (.slice (some ⟨ga, 0, none⟩) 32 32) ([] : List UInt8) (T (l.take m)) rfl O11.out rfl (dg_bv (HGA.out.below B11.out) (T_len _)) (by simp [T_len]) ?_
            intro v12 U12 O12 hg12 hv12
            have B12 := Lib.hid (grown_below B11.out B11.out.size hg12 ob10)
            have ob12 := own_grown_lt ob10 B11.out.size hv12
            clear hg12 hv12
            refine hK.out _ _ ⟨range_below hRa B12.out, range_below hRp B12.out⟩ (fun _ => ?_)
            try simp only [Act.put, List.setIfInBounds_toArray, List.set_cons_zero, List.set_cons_succ]
            clear hK K
            refine wpAnyH_ready (rs := [6]) (by kernel_rfl) (by simp) ?_
            refine AllReadyH.cons rfl (fun K hK => ?_) AllReadyH.nil
            rw [if_pos (by rfl)]
            refine wp_apb rfl (.tmp 47) (.tmp 48) rfl (v12) (.slice (some ⟨gb, 0, none⟩) 32 32) ([] ++ T (l.take m)) (T [d]) rfl O12.out rfl (dg_bv (HGB.out.below B12.out) (T_len _)) (by simp [T_len]) ?_
            intro v13 U13 O13 hg13 hv13
            have B13 := Lib.hid (grown_below B12.out B12.out.size hg13 ob12)
            have ob13 := own_grown_lt ob12 B12.out.size hv13
            clear hg13 hv13
            refine hK.out _ _ ⟨range_below hRa B13.out, range_below hRp B13.out⟩ (fun _ => ?_)
            try simp only [Act.put, List.setIfInBounds_toArray, List.set_cons_zero, List.set_cons_succ]
            clear hK K
            refine wpAnyH_ready (rs := [7]) (by kernel_rfl) (by simp) ?_
            refine AllReadyH.cons rfl (fun K hK => ?_) AllReadyH.nil
            rw [if_pos (by rfl)]
            go_simp
            go_at_call 14
            refine (tagged_any sNode v13 (([] ++ T (l.take m)) ++ T [d]) U13 (by decide) (own_bv O13.out) (by simp [T_len]) (HK5.out.below B13.out)).mono ?_
            rintro e U14 ⟨rfl, hbe14⟩
            rw [show tg (bts sNode) (([] ++ T (l.take m)) ++ T [d]) = T (l.take m ++ [d]) from HTN.out.symm]
            have B14 := Lib.hid (B13.out.trans (hbe14.mono B13.out.size))
            clear hbe14
            have hHeld : U14.rangeAt ga 0 ((T (l.take m)).map byt) ∧ U14.rangeAt pb po ((T (l.take m)).map byt) := ⟨range_below hRa B14.out, range_below hRp B14.out⟩
            refine hK.out _ _ hHeld (fun _ => ?_)
            try simp only [Act.put, List.setIfInBounds_toArray, List.set_cons_zero, List.set_cons_succ]
            clear hK K
            refine take_at (i := 8) (k := 51) (v := .bool false) rfl rfl (by kernel_rfl) (by kernel_rfl) (by kernel_rfl) (fun _ _ _ h => h) (Or.inl ⟨by rfl, fun w _ => by go_simp⟩) hHeld ?_
            try simp only [Act.put, List.setIfInBounds_toArray, List.set_cons_zero, List.set_cons_succ]
            refine take_at (i := 9) (k := 52) (v := .bool false) rfl rfl (by kernel_rfl) (by kernel_rfl) (by kernel_rfl) (fun _ _ _ h => h) (Or.inl ⟨by rfl, fun w _ => rfl⟩) hHeld ?_
            try simp only [Act.put, List.setIfInBounds_toArray, List.set_cons_zero, List.set_cons_succ]
            refine take_at (i := 10) (k := 53) (v := .int .i64 0) rfl rfl (by kernel_rfl) (by kernel_rfl) (by kernel_rfl) (fun _ _ _ h => h) (Or.inl ⟨by rfl, fun w _ => rfl⟩) hHeld ?_
            try simp only [Act.put, List.setIfInBounds_toArray, List.set_cons_zero, List.set_cons_succ]
            refine take_at (i := 11) (k := 54) (v := .bool false) rfl rfl (by kernel_rfl) (by kernel_rfl) (by kernel_rfl) (fun _ _ _ h => h) (Or.inl ⟨by rfl, fun w _ => by go_simp⟩) hHeld ?_
            try simp only [Act.put, List.setIfInBounds_toArray, List.set_cons_zero, List.set_cons_succ]
            refine take_at (i := 12) (k := 55) (v := .bool false) rfl rfl (by kernel_rfl) (by kernel_rfl) (by kernel_rfl) (fun _ _ _ h => h) (Or.inl ⟨by rfl, fun w _ => by go_simp⟩) hHeld ?_
            try simp only [Act.put, List.setIfInBounds_toArray, List.set_cons_zero, List.set_cons_succ]
            refine take_at (i := 13) (k := 56) (v := .bool false) rfl rfl (by kernel_rfl) (by kernel_rfl) (by kernel_rfl) (fun _ _ _ h => h) (Or.inl ⟨by rfl, fun w _ => rfl⟩) hHeld ?_
            try simp only [Act.put, List.setIfInBounds_toArray, List.set_cons_zero, List.set_cons_succ]
            refine take_at (i := 14) (k := 57) (v := .slice (some ⟨pb, po, none⟩) 1 c1) rfl rfl (by kernel_rfl) (by kernel_rfl) (by kernel_rfl) (fun _ _ _ h => h) (Or.inl ⟨by rfl, fun w _ => rfl⟩) hHeld ?_
            try simp only [Act.put, List.setIfInBounds_toArray, List.set_cons_zero, List.set_cons_succ]
            refine take_at (i := 15) (k := 58) (v := .int .i64 1) rfl rfl (by kernel_rfl) (by kernel_rfl) (by kernel_rfl) (fun _ _ _ h => h) (Or.inl ⟨by rfl, fun w _ => by go_simp⟩) hHeld ?_
            try simp only [Act.put, List.setIfInBounds_toArray, List.set_cons_zero, List.set_cons_succ]
            refine take_at (i := 16) (k := 59) (v := .bool false) rfl rfl (by kernel_rfl) (by kernel_rfl) (by kernel_rfl) (fun _ _ _ h => h) (Or.inl ⟨by rfl, fun w _ => by go_simp⟩) hHeld ?_
            try simp only [Act.put, List.setIfInBounds_toArray, List.set_cons_zero, List.set_cons_succ]
            refine take_at (i := 17) (k := 60) (v := .bool false) rfl rfl (by kernel_rfl) (by kernel_rfl) (by kernel_rfl) (fun _ _ _ h => h) (Or.inl ⟨by rfl, fun w _ => by go_simp⟩) hHeld ?_
            try simp only [Act.put, List.setIfInBounds_toArray, List.set_cons_zero, List.set_cons_succ]
            refine take_at (i := 18) (k := 61) (v := .bool false) rfl rfl (by kernel_rfl) (by kernel_rfl) (by kernel_rfl) (fun _ _ _ h => h) (Or.inl ⟨by rfl, fun w _ => rfl⟩) hHeld ?_
            try simp only [Act.put, List.setIfInBounds_toArray, List.set_cons_zero, List.set_cons_succ]
            refine take_at (i := 19) (k := 62) (v := .slice (some ⟨pb, po, none⟩) 1 c1) rfl rfl (by kernel_rfl) (by kernel_rfl) (by kernel_rfl) (fun _ _ _ h => h) (Or.inl ⟨by rfl, fun w _ => rfl⟩) hHeld ?_
            try simp only [Act.put, List.setIfInBounds_toArray, List.set_cons_zero, List.set_cons_succ]
            refine take_at (i := 20) (k := 63) (v := .pointer (some ⟨pb, po, none⟩)) rfl rfl (by kernel_rfl) (by kernel_rfl) (by kernel_rfl) (fun _ _ _ h => h) (Or.inl ⟨by rfl, fun w _ => by go_simp⟩) hHeld ?_
            try simp only [Act.put, List.setIfInBounds_toArray, List.set_cons_zero, List.set_cons_succ]
            refine take_at (i := 21) (k := 64) (v := dgv (T (l.take m))) rfl rfl (by kernel_rfl) (by kernel_rfl) (by kernel_rfl) (fun _ _ _ h => h) (yieldsIf_load_mid (by rfl) 26 (.tmp 63) rfl pb po rfl ((T (l.take m)).map byt) _ (fun w' h => h.2) Tryd.underlying26 rfl hsTA) hHeld ?_
            try simp only [Act.put, List.setIfInBounds_toArray, List.set_cons_zero, List.set_cons_succ]
            refine take_at (i := 22) (k := 65) (v := dgv (T (l.take m))) rfl rfl (by kernel_rfl) (by kernel_rfl) (by kernel_rfl) (fun _ _ _ h => h) (yieldsIf_load_mid (by rfl) 26 (.tmp 7) rfl ga 0 rfl ((T (l.take m)).map byt) _ (fun w' h => h.1) Tryd.underlying26 rfl hsTA) hHeld ?_
            try simp only [Act.put, List.setIfInBounds_toArray, List.set_cons_zero, List.set_cons_succ]
            refine take_at (i := 23) (k := 66) (v := .bool false) rfl rfl (by kernel_rfl) (by kernel_rfl) (by kernel_rfl) (fun _ _ _ h => h) (Or.inl ⟨by rfl, fun w _ => by go_simp⟩) hHeld ?_
            try simp only [Act.put, List.setIfInBounds_toArray, List.set_cons_zero, List.set_cons_succ]
            refine take_at (i := 24) (k := 67) (v := .bool false) rfl rfl (by kernel_rfl) (by kernel_rfl) (by kernel_rfl) (fun _ _ _ h => h) (Or.inl ⟨by rfl, fun w _ => by go_simp⟩) hHeld ?_
            try simp only [Act.put, List.setIfInBounds_toArray, List.set_cons_zero, List.set_cons_succ]
            refine wpAnyH_done (by kernel_rfl) ?_ _
            have BF := B14
            clear hHeld hRa hRp
            go_wp2_with fail
            go_roundw
            case rel => exact ⟨m * 2, by omega, by go_num, Lib.hid (HW5.out.trans (BF.out.mono HW5.out.size))⟩
            case measure => simp [intOf]; omega
    · have c1 : ¬ (m : Int) ≤ (n : Int) := by omega
      go_wp2_with fail
      go_ret
      exact ⟨rfl, HB2.out.trans (hbr.out.mono HB2.out.size)⟩
end Go.Proofs.YtekboemijafplaaDoor
