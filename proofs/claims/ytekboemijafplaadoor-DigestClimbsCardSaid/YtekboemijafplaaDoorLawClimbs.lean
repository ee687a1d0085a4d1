/-
  Digest: the law DigestClimbs.
-/
import Derived.Test.YtekboemijafplaaDoorSteps
import Derived.BigFrame
namespace Go.Proofs.YtekboemijafplaaDoor
open Go Go.RowKit
theorem dg_load_g {ops : Array Oper} {rest : List Oper} {o : Oper} {a : Act} {w : World} {Q : Exit → Act → World → Prop} (hw : Region.wanted o (yielded ops a.tmps) = true) (x : Operand) (ho : o.op = .load 26 x) (g : Nat) (l : List UInt8) (hl : Dg w g l) (hx : l.length = 32)
    (hp : a.eval x = .pointer (some ⟨g, 0, none⟩)) (h : wpList Tryd.prog ops Q rest (a.put o.dst (dgv l)) w) : wpList Tryd.prog ops Q (o :: rest) a w :=
  BigFrame.wpList_want hw fun _ hK => wp_load_mid 26 x ho g 0 hp (l.map byt) _ (dg_range hl) Tryd.underlying26 rfl (by rw [size26, List.length_map, hx]) (hK _ _ h)
theorem PL_five : ((List.range 25).all fun n => (List.range n).all fun a => decide (PL a n ≤ 5)) = true := by decide +kernel
theorem PL_le5 {n a : Nat} (hn : n ≤ 24) (ha : a < n) : PL a n ≤ 5 := by
  have h := List.all_eq_true.1 PL_five n (List.mem_range.2 (by omega))
  have h2 := List.all_eq_true.1 h a (List.mem_range.2 ha)
  simpa using h2
set_option maxRecDepth 100000 in
set_option maxHeartbeats 16000000 in
theorem climbs_any (v : Value) (bs : List UInt8) (w : World) (hv : BV w v bs) (hk : KOK w) : Calls Tryd.prog 6 #[v] w (Ret (.bool true) w) := by
  have HV := Lib.hid hv
  have HK := Lib.hid hk
  clear hk hv
  go_enter Tryd.func6, Tryd.ntmps6
  go_wp2_with (first
    | (go_at_call 11; refine (sane_any _ HK.out).mono ?_; rintro e w1 ⟨rfl, hb1⟩; have HB1 := Lib.hid hb1; clear hb1))
  refine (digestsOf_any v bs w1 (HV.out.below HB1.out)).mono ?_
  rintro e w2 ⟨L, rfl, ho2, hb2, hob2⟩
  have hm : min bs.length 24 ≤ 24 := Nat.min_le_right _ _
  generalize hN : min bs.length 24 = n at *
  have HL := Lib.hid (ownN_ld (l := dof bs n) (by rw [dof_len]; exact ho2) (dof_32 bs n))
  have hLl := dof_len bs n
  have H32 := Lib.hid (dof_32 bs n)
  have HB2 := Lib.hid (HB1.out.trans (hb2.mono HB1.out.size))
  clear ho2 hb2 hob2 HB1
  generalize dof bs n = l at *
  have hform : ∃ p cap, L = .slice p n cap ∧ n ≤ cap ∧ cap ≤ maxLen := by
    obtain ⟨b, cap, p, rfl, h1, h2, h3, h4⟩ := HL.out
    exact ⟨p, cap, by rw [hLl], by omega, h2⟩
  obtain ⟨p, cap, rfl, hcap, hmax⟩ := hform
  unfold maxLen at hmax
  go_wp2_with fail
  refine (tree_any l _ w2 (by omega) H32.out HL.out (HK.out.below HB2.out)).mono ?_
  rintro e w3 ⟨rfl, hb3⟩
  have HB3 := Lib.hid (HB2.out.trans (hb3.mono HB2.out.size))
  have HL3 := Lib.hid (HL.out.below hb3)
  clear hb3 HL
  go_wp2_with (refine dg_store rfl (.tmp 4) (.tmp 18) rfl w3.heap.size zeros (T l) (zeros32 w3) (by simp [zeros]) (T_len _) rfl rfl ?_; rintro w4 hd4 hc4; have HB4 := Lib.hid (HB3.out.trans ((chg_alloc_below hc4 rfl).mono HB3.out.size)); have HL4 := Lib.hid (HL3.out.below (chg_alloc_below hc4 rfl)); clear hc4)
  generalize w3.heap.size = g at *
  have hslot : True := trivial
  go_loopw [21] (fun i wr => ∃ k : Nat, k ≤ n ∧ i = .int .i64 k ∧ Hid (Below w4.heap.size w4 wr)) (fun i _ => n - (intOf i).toNat)
  case atStart => exact ⟨0, Nat.zero_le _, rfl, Lib.hid (Below.refl _ _)⟩
  case round =>
    obtain ⟨k, hk, rfl, hbr⟩ := hrel
    by_cases hlt : k < n
    · obtain ⟨b, o, hpe⟩ : ∃ b o, p = some ⟨b, o, none⟩ := by
        obtain ⟨b, cap', p', e, h1, h2, h3, h4⟩ := HL4.out
        cases e
        rcases h4 with h4 | ⟨o, e, _⟩
        · have h0 : l.length = 0 := by rw [h4]; rfl
          exact absurd h0 (by omega)
        · exact ⟨b, o, e⟩
      subst hpe
      have hkl : k < l.length := by omega
      obtain ⟨d, hd⟩ : ∃ d, l[k]? = some d := ⟨l[k], List.getElem?_eq_getElem hkl⟩
      have hd32 := H32.out d (List.mem_of_getElem? hd)
      have hHK := Lib.hid (HK.out.below (HB4.out.trans (hbr.out.mono HB4.out.size)))
      have hHL := Lib.hid (HL4.out.below hbr.out)
      have hr := hHL.out.at H32.out k d hd
      have HR := Lib.hid hr
      have HD32 := Lib.hid hd32
      have HBR := Lib.hid (HB4.out.trans (hbr.out.mono HB4.out.size))
      have HT4 := Lib.hid (hd4.out.below hbr.out)
      have c1 : ((k : Nat) : Int) < (n : Int) := by omega
      have HCB := Lib.hid (climb_back n l k d (by omega) hd)
      have HPL := Lib.hid (PA_len n l k (by omega) (by omega))
      have HP32 := Lib.hid (PA_32 n l k (by omega))
      clear hr hd32
      have hRa := Lib.hid (range_below (w := wr) HR.out (one_new wr Z26))
      go_wp2_with (first
        | (refine el_load rfl (.tmp 24) rfl b (o + k * 32) d HR.out HD32.out rfl ?_)
        | (refine dg_store rfl (.tmp 6) (.tmp 25) rfl wr.heap.size zeros d (zeros32 wr) (by simp [zeros]) HD32.out rfl rfl ?_; rintro w5 hd5 hc5; have hb5 := Lib.hid (chg_alloc_below hc5 rfl); clear hc5))
      have hd5' := hd5.out
      have hB5 := Lib.hid (HBR.out.trans (hb5.out.mono HBR.out.size))
      have hW5 := Lib.hid (hbr.out.trans (hb5.out.mono hbr.out.size))
      have hT5 := Lib.hid (HT4.out.below hb5.out)
      have hL5 := Lib.hid (hHL.out.below hb5.out)
      have HD5 := Lib.hid hd5'
      clear hd5 hd5' hb5 hHL HT4 HR hRa hHK
      generalize wr.heap.size = h at *
      refine (path_ok l k _ w5 (by omega) hkl H32.out hL5.out (HK.out.below hB5.out)).mono ?_
      rintro e w6 ⟨vp, rfl, hop, hb6, hobp⟩
      have hvp := Lib.hid (ownN_ld hop HP32.out)
      have hB6 := Lib.hid (hB5.out.trans (hb6.mono hB5.out.size))
      have hW6 := Lib.hid (hW5.out.trans (hb6.mono hW5.out.size))
      have hT6 := Lib.hid (hT5.out.below hb6)
      have hL6 := Lib.hid (hL5.out.below hb6)
      have HD6 := Lib.hid (HD5.out.below hb6)
      clear hop hb6 hobp hT5 hL5 HD5 hB5
      obtain ⟨pp, pc, rfl⟩ : ∃ pp pc, vp = .slice pp (PA l k).length pc := by
        obtain ⟨b', cap', p', e', _⟩ := hvp.out
        exact ⟨p', cap', e'⟩
      have CC := Lib.hid (climb_ok d k n (PA l k) _ w6 (by omega) (by omega) hlt HD32.out HP32.out HPL.out hvp.out (HK.out.below hB6.out))
      go_wp2_with (first
        | (refine dg_load rfl (.tmp 6) rfl h d HD6.out HD32.out rfl ?_)
        | (go_at_call 22; refine CC.out.mono ?_; rintro e w7 ⟨rfl, hb7⟩; rw [HCB.out]; have hz7 := Lib.hid (zeros32 w7))
        | (refine dg_store rfl (.tmp 9) (.tmp 39) rfl w7.heap.size zeros (T l) hz7.out (by simp [zeros]) (T_len _) rfl rfl ?_; rintro w8 hd8 hc8; have hb8 := Lib.hid (hb7.trans ((chg_alloc_below hc8 rfl).mono hb7.size)); clear hc8 hz7 hb7))
      have hB8 := Lib.hid (hB6.out.trans (hb8.out.mono hB6.out.size))
      have hW8 := Lib.hid (hW6.out.trans (hb8.out.mono hW6.out.size))
      have hT8 := Lib.hid (hT6.out.below hb8.out)
      have hL8 := Lib.hid (hL6.out.below hb8.out)
      have HD8 := Lib.hid (HD6.out.below hb8.out)
      have hP8 := Lib.hid (hvp.out.below hb8.out)
      clear hT6 hL6 HD6 hB6 hb8 CC hvp
      generalize w7.heap.size = g9 at *
      have hR8 := dg_range HD8.out
      have B2 := Lib.hid (below_drew (Below.refl w8.heap.size w8))
      have hd32s : Hid (D32 [d]) := Lib.hid (fun x hx => by simp at hx; rw [hx]; exact HD32.out)
      have hpa : (PA l k).length ≤ 24 := by have := HPL.out; have := PL_lt n k (by omega); omega
      have hp5 : ¬ (5 < (PA l k).length) := by have := HPL.out; have := PL_le5 hm hlt; omega
      have hp5' : decide ((5 : Int) < ((PA l k).length : Int)) = false := by simp; omega
      have hsd : (Tryd.prog.info? 26).map (·.size) = some (d.map byt).length := by rw [size26, List.length_map, HD32.out]
      have heq : ∀ w, (Op.equalIn 10000 26 (dgv (T l)) (dgv (T l))).run Tryd.prog w = .ok true w := fun w => by rw [dg_equal _ _ (T_len _) (T_len _), beq_self_eq_true]
      refine wp_region_held_drew (S := fun w' => w'.rangeAt h 0 (d.map byt)) (by kernel_rfl) hR8 (fun hHeld => ?_)
      refine take_at (i := 0) (k := 42) (v := dgv d) rfl rfl (by kernel_rfl) (by kernel_rfl) (by kernel_rfl) (fun _ _ _ h => h) (yieldsIf_load_mid (by rfl) 26 (.tmp 6) rfl h 0 rfl (d.map byt) _ (fun w' h => h) Tryd.underlying26 rfl hsd) hHeld ?_
      try simp only [Act.put, List.setIfInBounds_toArray, List.set_cons_zero, List.set_cons_succ]
      refine take_at (i := 1) (k := 43) (v := .int .i64 (k : Int)) rfl rfl (by kernel_rfl) (by kernel_rfl) (by kernel_rfl) (fun _ _ _ h => h) (Or.inl ⟨by rfl, fun w _ => rfl⟩) hHeld ?_
      try simp only [Act.put, List.setIfInBounds_toArray, List.set_cons_zero, List.set_cons_succ]
      refine take_at (i := 2) (k := 44) (v := .slice (some ⟨b, o, none⟩) n cap) rfl rfl (by kernel_rfl) (by kernel_rfl) (by kernel_rfl) (fun _ _ _ h => h) (Or.inl ⟨by rfl, fun w _ => rfl⟩) hHeld ?_
      try simp only [Act.put, List.setIfInBounds_toArray, List.set_cons_zero, List.set_cons_succ]
      refine take_at (i := 3) (k := 45) (v := .int .i64 (n : Int)) rfl rfl (by kernel_rfl) (by kernel_rfl) (by kernel_rfl) (fun _ _ _ h => h) (Or.inl ⟨by rfl, fun w _ => by go_simp⟩) hHeld ?_
      try simp only [Act.put, List.setIfInBounds_toArray, List.set_cons_zero, List.set_cons_succ]
      refine take_at (i := 5) (k := 47) (v := .slice pp (PA l k).length pc) rfl rfl (by kernel_rfl) (by kernel_rfl) (by kernel_rfl) (fun _ _ _ h => h) (Or.inl ⟨by rfl, fun w _ => rfl⟩) hHeld ?_
      try simp only [Act.put, List.setIfInBounds_toArray, List.set_cons_zero, List.set_cons_succ]
      refine take_at (i := 7) (k := 49) (v := dgv d) rfl rfl (by kernel_rfl) (by kernel_rfl) (by kernel_rfl) (fun _ _ _ h => h) (yieldsIf_load_mid (by rfl) 26 (.tmp 6) rfl h 0 rfl (d.map byt) _ (fun w' h => h) Tryd.underlying26 rfl hsd) hHeld ?_
      try simp only [Act.put, List.setIfInBounds_toArray, List.set_cons_zero, List.set_cons_succ]
      clear hHeld
      refine wpAnyH_ready (rs := [4, 8, 14]) (by kernel_rfl) (by simp) ?_
      refine AllReadyH.cons rfl (fun K hK => ?_) (AllReadyH.cons rfl (fun K hK => ?_) (AllReadyH.cons rfl (fun K hK => ?_) AllReadyH.nil))
      · rw [if_pos (by rfl)]
        refine wp_b0 rfl rfl ?_
        intro U3 g3 hbe3 hge3 hlt3 O3
        have B3 := Lib.hid (B2.out.trans (hbe3.mono B2.out.size))
        have hz3 := B2.out.size
        have hy3 := hbe3.size
        have ob3 : ∀ j, (Value.slice (some ⟨g3, 0, none⟩) 0 0).ownBlock = some j → w8.heap.size ≤ j := fun j e => by
          have e' : g3 = j := Option.some.inj e
          subst e'
          exact (by omega)
        clear hbe3
        refine hK.out _ _ (range_below hR8 B3.out) (fun _ => ?_)
        try simp only [Act.put, List.setIfInBounds_toArray, List.set_cons_zero, List.set_cons_succ]
        clear hK K
        refine wpAnyH_ready (rs := [6, 8, 14]) (by kernel_rfl) (by simp) ?_
        refine AllReadyH.cons rfl (fun K hK => ?_) (AllReadyH.cons rfl (fun K hK => ?_) (AllReadyH.cons rfl (fun K hK => ?_) AllReadyH.nil))
        · rw [if_pos (by rfl)]
          refine wp_ap rfl (.tmp 46) (.tmp 47) rfl (.slice (some ⟨g3, 0, none⟩) 0 0) (.slice pp (PA l k).length pc) ([] : List (List UInt8)) (PA l k) rfl O3.out rfl (hP8.out.below B3.out) HP32.out (by simp; omega) ?_
          intro v4 U4 O4 hg4 hv4
          have B4 := Lib.hid (grown_below B3.out B3.out.size hg4 (fun j e => (ob3 j e)))
          have hz4 := B3.out.size
          have hy4 := hg4.size
          have ob4 : ∀ j, v4.ownBlock = some j → w8.heap.size ≤ j := fun j e => by
            rcases hv4 with h | ⟨j', h, h'⟩
            · rw [h] at e
              have h0 := ob3 j e
              exact h0
            · rw [h] at e
              have e' : j' = j := Option.some.inj e
              subst e'
              exact (by omega)
          clear hg4 hv4
          refine hK.out _ _ (range_below hR8 B4.out) (fun _ => ?_)
          try simp only [Act.put, List.setIfInBounds_toArray, List.set_cons_zero, List.set_cons_succ]
          clear hK K
          refine wpAnyH_ready (rs := [8, 14]) (by kernel_rfl) (by simp) ?_
          refine AllReadyH.cons rfl (fun K hK => ?_) (AllReadyH.cons rfl (fun K hK => ?_) AllReadyH.nil)
          · rw [if_pos (by rfl)]
            refine wp_b1 rfl 49 rfl d rfl HD32.out ?_
            intro U5 g5 hbe5 hge5 hlt5 L5
            have B5 := Lib.hid (B4.out.trans (hbe5.mono B4.out.size))
            have hz5 := B4.out.size
            have O5 := Lib.hid (OwnN.later O4.out hbe5)
            have hy5 := hbe5.size
            have ob5 : ∀ j, (v4 : Value).ownBlock = some j → w8.heap.size ≤ j ∧ g5 ≠ j := fun j e => by
              have h0 := ob4 j e
              have h1 := OwnN.lt O4.out e
              exact ⟨h0, by omega⟩
            clear hbe5
            refine hK.out _ _ (range_below hR8 B5.out) (fun _ => ?_)
            try simp only [Act.put, List.setIfInBounds_toArray, List.set_cons_zero, List.set_cons_succ]
            clear hK K
            refine wpAnyH_ready (rs := [9, 14]) (by kernel_rfl) (by simp) ?_
            refine AllReadyH.cons rfl (fun K hK => ?_) (AllReadyH.cons rfl (fun K hK => ?_) AllReadyH.nil)
            · rw [if_pos (by rfl)]
              refine wp_ap rfl (.tmp 48) (.tmp 50) rfl (v4) (.slice (some ⟨g5, 0, none⟩) 1 1) (([] : List (List UInt8)) ++ (PA l k)) [d] rfl O5.out rfl L5.out hd32s.out (by simp; omega) ?_
              intro v6 U6 O6 hg6 hv6
              have B6 := Lib.hid (grown_below B5.out B5.out.size hg6 (fun j e => (ob5 j e).1))
              have hz6 := B5.out.size
              have hy6 := hg6.size
              have ob6 : ∀ j, v6.ownBlock = some j → w8.heap.size ≤ j := fun j e => by
                rcases hv6 with h | ⟨j', h, h'⟩
                · rw [h] at e
                  have h0 := ob5 j e
                  exact h0.1
                · rw [h] at e
                  have e' : j' = j := Option.some.inj e
                  subst e'
                  exact (by omega)
              clear hg6 hv6
              refine hK.out _ _ (range_below hR8 B6.out) (fun _ => ?_)
              try simp only [Act.put, List.setIfInBounds_toArray, List.set_cons_zero, List.set_cons_succ]
              clear hK K
              refine wpAnyH_ready (rs := [10, 14]) (by kernel_rfl) (by simp) ?_
              refine AllReadyH.cons rfl (fun K hK => ?_) (AllReadyH.cons rfl (fun K hK => ?_) AllReadyH.nil)
              · rw [if_pos (by rfl)]
                obtain ⟨q7, m7, c7, e7, i7⟩ : ∃ q m c, v6 = .slice q m c ∧ m = ((([] : List (List UInt8)) ++ (PA l k)) ++ [d]).length := by
                  rcases O6.out with ⟨e1, e2, _⟩ | ⟨gg, cc, e1, _⟩
                  · exact ⟨_, _, _, e1, e2.symm⟩
                  · exact ⟨_, _, _, e1, rfl⟩
                have im7 : m7 ≠ PL k n := by rw [i7]; have := HPL.out; simp; omega
                rw [e7]
                clear i7
                go_simp
                go_at_call 22
                refine (climb_len d k n q7 m7 c7 U6 (by omega) (by omega) hlt im7).mono ?_
                rintro e U7 ⟨rfl, hbe7⟩
                have B7 := Lib.hid (B6.out.trans (hbe7.mono B6.out.size))
                have hz7 := B6.out.size
                clear hbe7
                refine hK.out _ _ (range_below hR8 B7.out) (fun _ => ?_)
                try simp only [Act.put, List.setIfInBounds_toArray, List.set_cons_zero, List.set_cons_succ]
                refine take_at (i := 11) (k := 41) (v := .tuple #[dgv zeros, .int .i64 1]) rfl rfl (by kernel_rfl) (by kernel_rfl) (by kernel_rfl) (fun _ _ _ h => h) (Or.inl ⟨by rfl, fun w _ => rfl⟩) (range_below hR8 B7.out) ?_
                try simp only [Act.put, List.setIfInBounds_toArray, List.set_cons_zero, List.set_cons_succ]
                refine take_at (i := 12) (k := 53) (v := dgv zeros) rfl rfl (by kernel_rfl) (by kernel_rfl) (by kernel_rfl) (fun _ _ _ h => h) (Or.inl ⟨by rfl, fun w _ => rfl⟩) (range_below hR8 B7.out) ?_
                try simp only [Act.put, List.setIfInBounds_toArray, List.set_cons_zero, List.set_cons_succ]
                refine take_at (i := 13) (k := 54) (v := .int .i64 1) rfl rfl (by kernel_rfl) (by kernel_rfl) (by kernel_rfl) (fun _ _ _ h => h) (Or.inl ⟨by rfl, fun w _ => rfl⟩) (range_below hR8 B7.out) ?_
                try simp only [Act.put, List.setIfInBounds_toArray, List.set_cons_zero, List.set_cons_succ]
                try simp only [Act.put, List.setIfInBounds_toArray, List.set_cons_zero, List.set_cons_succ]
                clear hK K
                refine wpAnyH_ready (rs := [14]) (by kernel_rfl) (by simp) ?_
                refine AllReadyH.cons rfl (fun K hK => ?_) AllReadyH.nil
                · rw [if_pos (by rfl)]
                  refine wp_al rfl rfl ?_
                  intro U8 g8 hbe8 hge8 hlt8 A8
                  have B8 := Lib.hid (B7.out.trans (hbe8.mono B7.out.size))
                  have hz8 := B7.out.size
                  have hy8 := hbe8.size
                  clear hbe8
                  refine hK.out _ _ (range_below hR8 B8.out) (fun _ => ?_)
                  try simp only [Act.put, List.setIfInBounds_toArray, List.set_cons_zero, List.set_cons_succ]
                  clear hK K
                  refine wpAnyH_ready (rs := [15]) (by kernel_rfl) (by simp) ?_
                  refine AllReadyH.cons rfl (fun K hK => ?_) AllReadyH.nil
                  · rw [if_pos (by rfl)]
                    refine wp_st (.tmp 11) (.tmp 53) rfl rfl g8 zeros zeros A8.out (by simp [zeros]) (by simp [zeros]) rfl rfl ?_
                    intro U9 hd9 hc9
                    have B9 := Lib.hid (Chg.below B8.out B8.out.size (by omega) hc9)
                    clear hc9 hd9
                    refine hK.out _ _ (range_below hR8 B9.out) (fun _ => ?_)
                    try simp only [Act.put, List.setIfInBounds_toArray, List.set_cons_zero, List.set_cons_succ]
                    clear hK K
                    refine take_at (i := 16) (k := 12) (v := .int .i64 1) rfl rfl (by kernel_rfl) (by kernel_rfl) (by kernel_rfl) (fun _ _ _ h => h) (Or.inl ⟨by rfl, fun w _ => rfl⟩) (range_below hR8 B9.out) ?_
                    try simp only [Act.put, List.setIfInBounds_toArray, List.set_cons_zero, List.set_cons_succ]
                    refine wpAnyH_done (by kernel_rfl) ?_ _
                    have BF := B9
                    have hg9 := hd8.out.below BF.out
                    have hg4 := hT8.out.below BF.out
                    have HG9 := Lib.hid hg9
                    have HG4 := Lib.hid hg4
                    clear hg9 hg4 hR8
                    go_wp2_with (first
                      | (refine dg_load_g rfl (.tmp 9) rfl g9 (T l) HG9.out (T_len _) rfl ?_)
                      | (refine dg_load_g rfl (.tmp 4) rfl g (T l) HG4.out (T_len _) rfl ?_))
                    go_roundw
                    case rel => exact ⟨k + 1, by omega, by go_num, Lib.hid (hW8.out.trans (BF.out.mono hW8.out.size))⟩
                    case measure => simp [intOf]; omega
              · rw [if_pos (by rfl)]
                refine wp_al rfl rfl ?_
                intro U10 g10 hbe10 hge10 hlt10 A10
                have B10 := Lib.hid (B6.out.trans (hbe10.mono B6.out.size))
                have hz10 := B6.out.size
                have O10 := Lib.hid (OwnN.later O6.out hbe10)
                have hy10 := hbe10.size
                have ob10 : ∀ j, (v6 : Value).ownBlock = some j → w8.heap.size ≤ j ∧ g10 ≠ j := fun j e => by
                  have h0 := ob6 j e
                  have h1 := OwnN.lt O6.out e
                  exact ⟨h0, by omega⟩
                clear hbe10
                refine hK.out _ _ (range_below hR8 B10.out) (fun _ => ?_)
                try simp only [Act.put, List.setIfInBounds_toArray, List.set_cons_zero, List.set_cons_succ]
                clear hK K
                refine wpAnyH_ready (rs := [10]) (by kernel_rfl) (by simp) ?_
                refine AllReadyH.cons rfl (fun K hK => ?_) AllReadyH.nil
                · rw [if_pos (by rfl)]
                  obtain ⟨q11, m11, c11, e11, i11⟩ : ∃ q m c, v6 = .slice q m c ∧ m = ((([] : List (List UInt8)) ++ (PA l k)) ++ [d]).length := by
                    rcases O10.out with ⟨e1, e2, _⟩ | ⟨gg, cc, e1, _⟩
                    · exact ⟨_, _, _, e1, e2.symm⟩
                    · exact ⟨_, _, _, e1, rfl⟩
                  have im11 : m11 ≠ PL k n := by rw [i11]; have := HPL.out; simp; omega
                  rw [e11]
                  clear i11
                  go_simp
                  go_at_call 22
                  refine (climb_len d k n q11 m11 c11 U10 (by omega) (by omega) hlt im11).mono ?_
                  rintro e U11 ⟨rfl, hbe11⟩
                  have B11 := Lib.hid (B10.out.trans (hbe11.mono B10.out.size))
                  have hz11 := B10.out.size
                  have A11 := Lib.hid (A10.out.below hbe11)
                  clear hbe11
                  refine hK.out _ _ (range_below hR8 B11.out) (fun _ => ?_)
                  try simp only [Act.put, List.setIfInBounds_toArray, List.set_cons_zero, List.set_cons_succ]
                  refine take_at (i := 11) (k := 41) (v := .tuple #[dgv zeros, .int .i64 1]) rfl rfl (by kernel_rfl) (by kernel_rfl) (by kernel_rfl) (fun _ _ _ h => h) (Or.inl ⟨by rfl, fun w _ => rfl⟩) (range_below hR8 B11.out) ?_
                  try simp only [Act.put, List.setIfInBounds_toArray, List.set_cons_zero, List.set_cons_succ]
                  refine take_at (i := 12) (k := 53) (v := dgv zeros) rfl rfl (by kernel_rfl) (by kernel_rfl) (by kernel_rfl) (fun _ _ _ h => h) (Or.inl ⟨by rfl, fun w _ => rfl⟩) (range_below hR8 B11.out) ?_
                  try simp only [Act.put, List.setIfInBounds_toArray, List.set_cons_zero, List.set_cons_succ]
                  refine take_at (i := 13) (k := 54) (v := .int .i64 1) rfl rfl (by kernel_rfl) (by kernel_rfl) (by kernel_rfl) (fun _ _ _ h => h) (Or.inl ⟨by rfl, fun w _ => rfl⟩) (range_below hR8 B11.out) ?_
                  try simp only [Act.put, List.setIfInBounds_toArray, List.set_cons_zero, List.set_cons_succ]
                  try simp only [Act.put, List.setIfInBounds_toArray, List.set_cons_zero, List.set_cons_succ]
                  clear hK K
                  refine wpAnyH_ready (rs := [15]) (by kernel_rfl) (by simp) ?_
                  refine AllReadyH.cons rfl (fun K hK => ?_) AllReadyH.nil
                  · rw [if_pos (by rfl)]
                    refine wp_st (.tmp 11) (.tmp 53) rfl rfl g10 zeros zeros A11.out (by simp [zeros]) (by simp [zeros]) rfl rfl ?_
                    intro U12 hd12 hc12
                    have B12 := Lib.hid (Chg.below B11.out B11.out.size (by omega) hc12)
                    clear hc12 hd12
                    refine hK.out _ _ (range_below hR8 B12.out) (fun _ => ?_)
                    try simp only [Act.put, List.setIfInBounds_toArray, List.set_cons_zero, List.set_cons_succ]
                    clear hK K
                    refine take_at (i := 16) (k := 12) (v := .int .i64 1) rfl rfl (by kernel_rfl) (by kernel_rfl) (by kernel_rfl) (fun _ _ _ h => h) (Or.inl ⟨by rfl, fun w _ => rfl⟩) (range_below hR8 B12.out) ?_
                    try simp only [Act.put, List.setIfInBounds_toArray, List.set_cons_zero, List.set_cons_succ]
                    refine wpAnyH_done (by kernel_rfl) ?_ _
                    have BF := B12
                    have hg9 := hd8.out.below BF.out
                    have hg4 := hT8.out.below BF.out
                    have HG9 := Lib.hid hg9
                    have HG4 := Lib.hid hg4
                    clear hg9 hg4 hR8
                    go_wp2_with (first
                      | (refine dg_load_g rfl (.tmp 9) rfl g9 (T l) HG9.out (T_len _) rfl ?_)
                      | (refine dg_load_g rfl (.tmp 4) rfl g (T l) HG4.out (T_len _) rfl ?_))
                    go_roundw
                    case rel => exact ⟨k + 1, by omega, by go_num, Lib.hid (hW8.out.trans (BF.out.mono hW8.out.size))⟩
                    case measure => simp [intOf]; omega
            · rw [if_pos (by rfl)]
              refine wp_al rfl rfl ?_
              intro U13 g13 hbe13 hge13 hlt13 A13
              have B13 := Lib.hid (B5.out.trans (hbe13.mono B5.out.size))
              have hz13 := B5.out.size
              have O13 := Lib.hid (OwnN.later O5.out hbe13)
              have L13 := Lib.hid (L5.out.below hbe13)
              have hy13 := hbe13.size
              have ob13 : ∀ j, (v4 : Value).ownBlock = some j → w8.heap.size ≤ j ∧ g5 ≠ j ∧ g13 ≠ j := fun j e => by
                have h0 := ob5 j e
                have h1 := OwnN.lt O5.out e
                exact ⟨h0.1, h0.2, by omega⟩
              clear hbe13
              refine hK.out _ _ (range_below hR8 B13.out) (fun _ => ?_)
              try simp only [Act.put, List.setIfInBounds_toArray, List.set_cons_zero, List.set_cons_succ]
              clear hK K
              refine wpAnyH_ready (rs := [9]) (by kernel_rfl) (by simp) ?_
              refine AllReadyH.cons rfl (fun K hK => ?_) AllReadyH.nil
              · rw [if_pos (by rfl)]
                refine wp_ap rfl (.tmp 48) (.tmp 50) rfl (v4) (.slice (some ⟨g5, 0, none⟩) 1 1) (([] : List (List UInt8)) ++ (PA l k)) [d] rfl O13.out rfl L13.out hd32s.out (by simp; omega) ?_
                intro v14 U14 O14 hg14 hv14
                have B14 := Lib.hid (grown_below B13.out B13.out.size hg14 (fun j e => (ob13 j e).1))
                have hz14 := B13.out.size
                have hy14 := hg14.size
                have A14 := Lib.hid (keep_grown A13.out hg14 (fun j e => (ob13 j e).2.2))
                have ob14 : ∀ j, v14.ownBlock = some j → w8.heap.size ≤ j ∧ g13 ≠ j := fun j e => by
                  rcases hv14 with h | ⟨j', h, h'⟩
                  · rw [h] at e
                    have h0 := ob13 j e
                    exact ⟨h0.1, h0.2.2⟩
                  · rw [h] at e
                    have e' : j' = j := Option.some.inj e
                    subst e'
                    exact ⟨by omega, by omega⟩
                clear hg14 hv14
                refine hK.out _ _ (range_below hR8 B14.out) (fun _ => ?_)
                try simp only [Act.put, List.setIfInBounds_toArray, List.set_cons_zero, List.set_cons_succ]
                clear hK K
                refine wpAnyH_ready (rs := [10]) (by kernel_rfl) (by simp) ?_
                refine AllReadyH.cons rfl (fun K hK => ?_) AllReadyH.nil
                · rw [if_pos (by rfl)]
                  obtain ⟨q15, m15, c15, e15, i15⟩ : ∃ q m c, v14 = .slice q m c ∧ m = ((([] : List (List UInt8)) ++ (PA l k)) ++ [d]).length := by
                    rcases O14.out with ⟨e1, e2, _⟩ | ⟨gg, cc, e1, _⟩
                    · exact ⟨_, _, _, e1, e2.symm⟩
                    · exact ⟨_, _, _, e1, rfl⟩
                  have im15 : m15 ≠ PL k n := by rw [i15]; have := HPL.out; simp; omega
                  rw [e15]
                  clear i15
                  go_simp
                  go_at_call 22
                  refine (climb_len d k n q15 m15 c15 U14 (by omega) (by omega) hlt im15).mono ?_
                  rintro e U15 ⟨rfl, hbe15⟩
                  have B15 := Lib.hid (B14.out.trans (hbe15.mono B14.out.size))
                  have hz15 := B14.out.size
                  have A15 := Lib.hid (A14.out.below hbe15)
                  clear hbe15
                  refine hK.out _ _ (range_below hR8 B15.out) (fun _ => ?_)
                  try simp only [Act.put, List.setIfInBounds_toArray, List.set_cons_zero, List.set_cons_succ]
                  refine take_at (i := 11) (k := 41) (v := .tuple #[dgv zeros, .int .i64 1]) rfl rfl (by kernel_rfl) (by kernel_rfl) (by kernel_rfl) (fun _ _ _ h => h) (Or.inl ⟨by rfl, fun w _ => rfl⟩) (range_below hR8 B15.out) ?_
                  try simp only [Act.put, List.setIfInBounds_toArray, List.set_cons_zero, List.set_cons_succ]
                  refine take_at (i := 12) (k := 53) (v := dgv zeros) rfl rfl (by kernel_rfl) (by kernel_rfl) (by kernel_rfl) (fun _ _ _ h => h) (Or.inl ⟨by rfl, fun w _ => rfl⟩) (range_below hR8 B15.out) ?_
                  try simp only [Act.put, List.setIfInBounds_toArray, List.set_cons_zero, List.set_cons_succ]
                  refine take_at (i := 13) (k := 54) (v := .int .i64 1) rfl rfl (by kernel_rfl) (by kernel_rfl) (by kernel_rfl) (fun _ _ _ h => h) (Or.inl ⟨by rfl, fun w _ => rfl⟩) (range_below hR8 B15.out) ?_
                  try simp only [Act.put, List.setIfInBounds_toArray, List.set_cons_zero, List.set_cons_succ]
                  try simp only [Act.put, List.setIfInBounds_toArray, List.set_cons_zero, List.set_cons_succ]
                  clear hK K
                  refine wpAnyH_ready (rs := [15]) (by kernel_rfl) (by simp) ?_
                  refine AllReadyH.cons rfl (fun K hK => ?_) AllReadyH.nil
                  · rw [if_pos (by rfl)]
                    refine wp_st (.tmp 11) (.tmp 53) rfl rfl g13 zeros zeros A15.out (by simp [zeros]) (by simp [zeros]) rfl rfl ?_
                    intro U16 hd16 hc16
                    have B16 := Lib.hid (Chg.below B15.out B15.out.size (by omega) hc16)
                    clear hc16 hd16
                    refine hK.out _ _ (range_below hR8 B16.out) (fun _ => ?_)
                    try simp only [Act.put, List.setIfInBounds_toArray, List.set_cons_zero, List.set_cons_succ]
                    clear hK K
                    refine take_at (i := 16) (k := 12) (v := .int .i64 1) rfl rfl (by kernel_rfl) (by kernel_rfl) (by kernel_rfl) (fun _ _ _ h => h) (Or.inl ⟨by rfl, fun w _ => rfl⟩) (range_below hR8 B16.out) ?_
                    try simp only [Act.put, List.setIfInBounds_toArray, List.set_cons_zero, List.set_cons_succ]
                    refine wpAnyH_done (by kernel_rfl) ?_ _
                    have BF := B16
                    have hg9 := hd8.out.below BF.out
                    have hg4 := hT8.out.below BF.out
                    have HG9 := Lib.hid hg9
                    have HG4 := Lib.hid hg4
                    clear hg9 hg4 hR8
                    go_wp2_with (first
                      | (refine dg_load_g rfl (.tmp 9) rfl g9 (T l) HG9.out (T_len _) rfl ?_)
                      | (refine dg_load_g rfl (.tmp 4) rfl g (T l) HG4.out (T_len _) rfl ?_))
                    go_roundw
                    case rel => exact ⟨k + 1, by omega, by go_num, Lib.hid (hW8.out.trans (BF.out.mono hW8.out.size))⟩
                    case measure => simp [intOf]; omega
          · rw [if_pos (by rfl)]
            refine wp_al rfl rfl ?_
            intro U17 g17 hbe17 hge17 hlt17 A17
            have B17 := Lib.hid (B4.out.trans (hbe17.mono B4.out.size))
            have hz17 := B4.out.size
            have O17 := Lib.hid (OwnN.later O4.out hbe17)
            have hy17 := hbe17.size
            have ob17 : ∀ j, (v4 : Value).ownBlock = some j → w8.heap.size ≤ j ∧ g17 ≠ j := fun j e => by
              have h0 := ob4 j e
              have h1 := OwnN.lt O4.out e
              exact ⟨h0, by omega⟩
            clear hbe17
            refine hK.out _ _ (range_below hR8 B17.out) (fun _ => ?_)
            try simp only [Act.put, List.setIfInBounds_toArray, List.set_cons_zero, List.set_cons_succ]
            clear hK K
            refine wpAnyH_ready (rs := [8]) (by kernel_rfl) (by simp) ?_
            refine AllReadyH.cons rfl (fun K hK => ?_) AllReadyH.nil
            · rw [if_pos (by rfl)]
              refine wp_b1 rfl 49 rfl d rfl HD32.out ?_
              intro U18 g18 hbe18 hge18 hlt18 L18
              have B18 := Lib.hid (B17.out.trans (hbe18.mono B17.out.size))
              have hz18 := B17.out.size
              have O18 := Lib.hid (OwnN.later O17.out hbe18)
              have A18 := Lib.hid (A17.out.below hbe18)
              have hy18 := hbe18.size
              have ob18 : ∀ j, (v4 : Value).ownBlock = some j → w8.heap.size ≤ j ∧ g18 ≠ j ∧ g17 ≠ j := fun j e => by
                have h0 := ob17 j e
                have h1 := OwnN.lt O17.out e
                exact ⟨h0.1, by omega, h0.2⟩
              clear hbe18
              refine hK.out _ _ (range_below hR8 B18.out) (fun _ => ?_)
              try simp only [Act.put, List.setIfInBounds_toArray, List.set_cons_zero, List.set_cons_succ]
              clear hK K
              refine wpAnyH_ready (rs := [9]) (by kernel_rfl) (by simp) ?_
              refine AllReadyH.cons rfl (fun K hK => ?_) AllReadyH.nil
              · rw [if_pos (by rfl)]
                refine wp_ap rfl (.tmp 48) (.tmp 50) rfl (v4) (.slice (some ⟨g18, 0, none⟩) 1 1) (([] : List (List UInt8)) ++ (PA l k)) [d] rfl O18.out rfl L18.out hd32s.out (by simp; omega) ?_
                intro v19 U19 O19 hg19 hv19
                have B19 := Lib.hid (grown_below B18.out B18.out.size hg19 (fun j e => (ob18 j e).1))
                have hz19 := B18.out.size
                have hy19 := hg19.size
                have A19 := Lib.hid (keep_grown A18.out hg19 (fun j e => (ob18 j e).2.2))
                have ob19 : ∀ j, v19.ownBlock = some j → w8.heap.size ≤ j ∧ g17 ≠ j := fun j e => by
                  rcases hv19 with h | ⟨j', h, h'⟩
                  · rw [h] at e
                    have h0 := ob18 j e
                    exact ⟨h0.1, h0.2.2⟩
                  · rw [h] at e
                    have e' : j' = j := Option.some.inj e
                    subst e'
                    exact ⟨by omega, by omega⟩
                clear hg19 hv19
                refine hK.out _ _ (range_below hR8 B19.out) (fun _ => ?_)
                try simp only [Act.put, List.setIfInBounds_toArray, List.set_cons_zero, List.set_cons_succ]
                clear hK K
                refine wpAnyH_ready (rs := [10]) (by kernel_rfl) (by simp) ?_
                refine AllReadyH.cons rfl (fun K hK => ?_) AllReadyH.nil
                · rw [if_pos (by rfl)]
                  obtain ⟨q20, m20, c20, e20, i20⟩ : ∃ q m c, v19 = .slice q m c ∧ m = ((([] : List (List UInt8)) ++ (PA l k)) ++ [d]).length := by
                    rcases O19.out with ⟨e1, e2, _⟩ | ⟨gg, cc, e1, _⟩
                    · exact ⟨_, _, _, e1, e2.symm⟩
                    · exact ⟨_, _, _, e1, rfl⟩
                  have im20 : m20 ≠ PL k n := by rw [i20]; have := HPL.out; simp; omega
                  rw [e20]
                  clear i20
                  go_simp
                  go_at_call 22
                  refine (climb_len d k n q20 m20 c20 U19 (by omega) (by omega) hlt im20).mono ?_
                  rintro e U20 ⟨rfl, hbe20⟩
                  have B20 := Lib.hid (B19.out.trans (hbe20.mono B19.out.size))
                  have hz20 := B19.out.size
                  have A20 := Lib.hid (A19.out.below hbe20)
                  clear hbe20
                  refine hK.out _ _ (range_below hR8 B20.out) (fun _ => ?_)
                  try simp only [Act.put, List.setIfInBounds_toArray, List.set_cons_zero, List.set_cons_succ]
                  refine take_at (i := 11) (k := 41) (v := .tuple #[dgv zeros, .int .i64 1]) rfl rfl (by kernel_rfl) (by kernel_rfl) (by kernel_rfl) (fun _ _ _ h => h) (Or.inl ⟨by rfl, fun w _ => rfl⟩) (range_below hR8 B20.out) ?_
                  try simp only [Act.put, List.setIfInBounds_toArray, List.set_cons_zero, List.set_cons_succ]
                  refine take_at (i := 12) (k := 53) (v := dgv zeros) rfl rfl (by kernel_rfl) (by kernel_rfl) (by kernel_rfl) (fun _ _ _ h => h) (Or.inl ⟨by rfl, fun w _ => rfl⟩) (range_below hR8 B20.out) ?_
                  try simp only [Act.put, List.setIfInBounds_toArray, List.set_cons_zero, List.set_cons_succ]
                  refine take_at (i := 13) (k := 54) (v := .int .i64 1) rfl rfl (by kernel_rfl) (by kernel_rfl) (by kernel_rfl) (fun _ _ _ h => h) (Or.inl ⟨by rfl, fun w _ => rfl⟩) (range_below hR8 B20.out) ?_
                  try simp only [Act.put, List.setIfInBounds_toArray, List.set_cons_zero, List.set_cons_succ]
                  try simp only [Act.put, List.setIfInBounds_toArray, List.set_cons_zero, List.set_cons_succ]
                  clear hK K
                  refine wpAnyH_ready (rs := [15]) (by kernel_rfl) (by simp) ?_
                  refine AllReadyH.cons rfl (fun K hK => ?_) AllReadyH.nil
                  · rw [if_pos (by rfl)]
                    refine wp_st (.tmp 11) (.tmp 53) rfl rfl g17 zeros zeros A20.out (by simp [zeros]) (by simp [zeros]) rfl rfl ?_
                    intro U21 hd21 hc21
                    have B21 := Lib.hid (Chg.below B20.out B20.out.size (by omega) hc21)
                    clear hc21 hd21
                    refine hK.out _ _ (range_below hR8 B21.out) (fun _ => ?_)
                    try simp only [Act.put, List.setIfInBounds_toArray, List.set_cons_zero, List.set_cons_succ]
                    clear hK K
                    refine take_at (i := 16) (k := 12) (v := .int .i64 1) rfl rfl (by kernel_rfl) (by kernel_rfl) (by kernel_rfl) (fun _ _ _ h => h) (Or.inl ⟨by rfl, fun w _ => rfl⟩) (range_below hR8 B21.out) ?_
                    try simp only [Act.put, List.setIfInBounds_toArray, List.set_cons_zero, List.set_cons_succ]
                    refine wpAnyH_done (by kernel_rfl) ?_ _
                    have BF := B21
                    have hg9 := hd8.out.below BF.out
                    have hg4 := hT8.out.below BF.out
                    have HG9 := Lib.hid hg9
                    have HG4 := Lib.hid hg4
                    clear hg9 hg4 hR8
                    go_wp2_with (first
                      | (refine dg_load_g rfl (.tmp 9) rfl g9 (T l) HG9.out (T_len _) rfl ?_)
                      | (refine dg_load_g rfl (.tmp 4) rfl g (T l) HG4.out (T_len _) rfl ?_))
                    go_roundw
                    case rel => exact ⟨k + 1, by omega, by go_num, Lib.hid (hW8.out.trans (BF.out.mono hW8.out.size))⟩
                    case measure => simp [intOf]; omega
        · rw [if_pos (by rfl)]
          refine wp_b1 rfl 49 rfl d rfl HD32.out ?_
          intro U22 g22 hbe22 hge22 hlt22 L22
          have B22 := Lib.hid (B3.out.trans (hbe22.mono B3.out.size))
          have hz22 := B3.out.size
          have O22 := Lib.hid (OwnN.later O3.out hbe22)
          have hy22 := hbe22.size
          have ob22 : ∀ j, (.slice (some ⟨g3, 0, none⟩) 0 0 : Value).ownBlock = some j → w8.heap.size ≤ j ∧ g22 ≠ j := fun j e => by
            have h0 := ob3 j e
            have h1 := OwnN.lt O3.out e
            exact ⟨h0, by omega⟩
          clear hbe22
          refine hK.out _ _ (range_below hR8 B22.out) (fun _ => ?_)
          try simp only [Act.put, List.setIfInBounds_toArray, List.set_cons_zero, List.set_cons_succ]
          clear hK K
          refine wpAnyH_ready (rs := [6, 14]) (by kernel_rfl) (by simp) ?_
          refine AllReadyH.cons rfl (fun K hK => ?_) (AllReadyH.cons rfl (fun K hK => ?_) AllReadyH.nil)
          · rw [if_pos (by rfl)]
            refine wp_ap rfl (.tmp 46) (.tmp 47) rfl (.slice (some ⟨g3, 0, none⟩) 0 0) (.slice pp (PA l k).length pc) ([] : List (List UInt8)) (PA l k) rfl O22.out rfl (hP8.out.below B22.out) HP32.out (by simp; omega) ?_
            intro v23 U23 O23 hg23 hv23
            have B23 := Lib.hid (grown_below B22.out B22.out.size hg23 (fun j e => (ob22 j e).1))
            have hz23 := B22.out.size
            have hy23 := hg23.size
            have L23 := Lib.hid (ld_grown L22.out hg23 (fun j e => (ob22 j e).2))
            have ob23 : ∀ j, v23.ownBlock = some j → w8.heap.size ≤ j ∧ g22 ≠ j := fun j e => by
              rcases hv23 with h | ⟨j', h, h'⟩
              · rw [h] at e
                have h0 := ob22 j e
                exact ⟨h0.1, h0.2⟩
              · rw [h] at e
                have e' : j' = j := Option.some.inj e
                subst e'
                exact ⟨by omega, by omega⟩
            clear hg23 hv23
            refine hK.out _ _ (range_below hR8 B23.out) (fun _ => ?_)
            try simp only [Act.put, List.setIfInBounds_toArray, List.set_cons_zero, List.set_cons_succ]
            clear hK K
            refine wpAnyH_ready (rs := [9, 14]) (by kernel_rfl) (by simp) ?_
            refine AllReadyH.cons rfl (fun K hK => ?_) (AllReadyH.cons rfl (fun K hK => ?_) AllReadyH.nil)
            · rw [if_pos (by rfl)]
              refine wp_ap rfl (.tmp 48) (.tmp 50) rfl (v23) (.slice (some ⟨g22, 0, none⟩) 1 1) (([] : List (List UInt8)) ++ (PA l k)) [d] rfl O23.out rfl L23.out hd32s.out (by simp; omega) ?_
              intro v24 U24 O24 hg24 hv24
              have B24 := Lib.hid (grown_below B23.out B23.out.size hg24 (fun j e => (ob23 j e).1))
              have hz24 := B23.out.size
              have hy24 := hg24.size
              have ob24 : ∀ j, v24.ownBlock = some j → w8.heap.size ≤ j := fun j e => by
                rcases hv24 with h | ⟨j', h, h'⟩
                · rw [h] at e
                  have h0 := ob23 j e
                  exact h0.1
                · rw [h] at e
                  have e' : j' = j := Option.some.inj e
                  subst e'
                  exact (by omega)
              clear hg24 hv24
              refine hK.out _ _ (range_below hR8 B24.out) (fun _ => ?_)
              try simp only [Act.put, List.setIfInBounds_toArray, List.set_cons_zero, List.set_cons_succ]
              clear hK K
              refine wpAnyH_ready (rs := [10, 14]) (by kernel_rfl) (by simp) ?_
              refine AllReadyH.cons rfl (fun K hK => ?_) (AllReadyH.cons rfl (fun K hK => ?_) AllReadyH.nil)
              · rw [if_pos (by rfl)]
                obtain ⟨q25, m25, c25, e25, i25⟩ : ∃ q m c, v24 = .slice q m c ∧ m = ((([] : List (List UInt8)) ++ (PA l k)) ++ [d]).length := by
                  rcases O24.out with ⟨e1, e2, _⟩ | ⟨gg, cc, e1, _⟩
                  · exact ⟨_, _, _, e1, e2.symm⟩
                  · exact ⟨_, _, _, e1, rfl⟩
                have im25 : m25 ≠ PL k n := by rw [i25]; have := HPL.out; simp; omega
                rw [e25]
                clear i25
                go_simp
                go_at_call 22
                refine (climb_len d k n q25 m25 c25 U24 (by omega) (by omega) hlt im25).mono ?_
                rintro e U25 ⟨rfl, hbe25⟩
                have B25 := Lib.hid (B24.out.trans (hbe25.mono B24.out.size))
                have hz25 := B24.out.size
                clear hbe25
                refine hK.out _ _ (range_below hR8 B25.out) (fun _ => ?_)
                try simp only [Act.put, List.setIfInBounds_toArray, List.set_cons_zero, List.set_cons_succ]
                refine take_at (i := 11) (k := 41) (v := .tuple #[dgv zeros, .int .i64 1]) rfl rfl (by kernel_rfl) (by kernel_rfl) (by kernel_rfl) (fun _ _ _ h => h) (Or.inl ⟨by rfl, fun w _ => rfl⟩) (range_below hR8 B25.out) ?_
                try simp only [Act.put, List.setIfInBounds_toArray, List.set_cons_zero, List.set_cons_succ]
                refine take_at (i := 12) (k := 53) (v := dgv zeros) rfl rfl (by kernel_rfl) (by kernel_rfl) (by kernel_rfl) (fun _ _ _ h => h) (Or.inl ⟨by rfl, fun w _ => rfl⟩) (range_below hR8 B25.out) ?_
                try simp only [Act.put, List.setIfInBounds_toArray, List.set_cons_zero, List.set_cons_succ]
                refine take_at (i := 13) (k := 54) (v := .int .i64 1) rfl rfl (by kernel_rfl) (by kernel_rfl) (by kernel_rfl) (fun _ _ _ h => h) (Or.inl ⟨by rfl, fun w _ => rfl⟩) (range_below hR8 B25.out) ?_
                try simp only [Act.put, List.setIfInBounds_toArray, List.set_cons_zero, List.set_cons_succ]
                try simp only [Act.put, List.setIfInBounds_toArray, List.set_cons_zero, List.set_cons_succ]
                clear hK K
                refine wpAnyH_ready (rs := [14]) (by kernel_rfl) (by simp) ?_
                refine AllReadyH.cons rfl (fun K hK => ?_) AllReadyH.nil
                · rw [if_pos (by rfl)]
                  refine wp_al rfl rfl ?_
                  intro U26 g26 hbe26 hge26 hlt26 A26
                  have B26 := Lib.hid (B25.out.trans (hbe26.mono B25.out.size))
                  have hz26 := B25.out.size
                  have hy26 := hbe26.size
                  clear hbe26
                  refine hK.out _ _ (range_below hR8 B26.out) (fun _ => ?_)
                  try simp only [Act.put, List.setIfInBounds_toArray, List.set_cons_zero, List.set_cons_succ]
                  clear hK K
                  refine wpAnyH_ready (rs := [15]) (by kernel_rfl) (by simp) ?_
                  refine AllReadyH.cons rfl (fun K hK => ?_) AllReadyH.nil
                  · rw [if_pos (by rfl)]
                    refine wp_st (.tmp 11) (.tmp 53) rfl rfl g26 zeros zeros A26.out (by simp [zeros]) (by simp [zeros]) rfl rfl ?_
                    intro U27 hd27 hc27
                    have B27 := Lib.hid (Chg.below B26.out B26.out.size (by omega) hc27)
                    clear hc27 hd27
                    refine hK.out _ _ (range_below hR8 B27.out) (fun _ => ?_)
                    try simp only [Act.put, List.setIfInBounds_toArray, List.set_cons_zero, List.set_cons_succ]
                    clear hK K
                    refine take_at (i := 16) (k := 12) (v := .int .i64 1) rfl rfl (by kernel_rfl) (by kernel_rfl) (by kernel_rfl) (fun _ _ _ h => h) (Or.inl ⟨by rfl, fun w _ => rfl⟩) (range_below hR8 B27.out) ?_
                    try simp only [Act.put, List.setIfInBounds_toArray, List.set_cons_zero, List.set_cons_succ]
                    refine wpAnyH_done (by kernel_rfl) ?_ _
                    have BF := B27
                    have hg9 := hd8.out.below BF.out
                    have hg4 := hT8.out.below BF.out
                    have HG9 := Lib.hid hg9
                    have HG4 := Lib.hid hg4
                    clear hg9 hg4 hR8
                    go_wp2_with (first
                      | (refine dg_load_g rfl (.tmp 9) rfl g9 (T l) HG9.out (T_len _) rfl ?_)
                      | (refine dg_load_g rfl (.tmp 4) rfl g (T l) HG4.out (T_len _) rfl ?_))
                    go_roundw
                    case rel => exact ⟨k + 1, by omega, by go_num, Lib.hid (hW8.out.trans (BF.out.mono hW8.out.size))⟩
                    case measure => simp [intOf]; omega
              · rw [if_pos (by rfl)]
                refine wp_al rfl rfl ?_
                intro U28 g28 hbe28 hge28 hlt28 A28
                have B28 := Lib.hid (B24.out.trans (hbe28.mono B24.out.size))
                have hz28 := B24.out.size
                have O28 := Lib.hid (OwnN.later O24.out hbe28)
                have hy28 := hbe28.size
                have ob28 : ∀ j, (v24 : Value).ownBlock = some j → w8.heap.size ≤ j ∧ g28 ≠ j := fun j e => by
                  have h0 := ob24 j e
                  have h1 := OwnN.lt O24.out e
                  exact ⟨h0, by omega⟩
                clear hbe28
                refine hK.out _ _ (range_below hR8 B28.out) (fun _ => ?_)
                try simp only [Act.put, List.setIfInBounds_toArray, List.set_cons_zero, List.set_cons_succ]
                clear hK K
                refine wpAnyH_ready (rs := [10]) (by kernel_rfl) (by simp) ?_
                refine AllReadyH.cons rfl (fun K hK => ?_) AllReadyH.nil
                · rw [if_pos (by rfl)]
                  obtain ⟨q29, m29, c29, e29, i29⟩ : ∃ q m c, v24 = .slice q m c ∧ m = ((([] : List (List UInt8)) ++ (PA l k)) ++ [d]).length := by
                    rcases O28.out with ⟨e1, e2, _⟩ | ⟨gg, cc, e1, _⟩
                    · exact ⟨_, _, _, e1, e2.symm⟩
                    · exact ⟨_, _, _, e1, rfl⟩
                  have im29 : m29 ≠ PL k n := by rw [i29]; have := HPL.out; simp; omega
                  rw [e29]
                  clear i29
                  go_simp
                  go_at_call 22
                  refine (climb_len d k n q29 m29 c29 U28 (by omega) (by omega) hlt im29).mono ?_
                  rintro e U29 ⟨rfl, hbe29⟩
                  have B29 := Lib.hid (B28.out.trans (hbe29.mono B28.out.size))
                  have hz29 := B28.out.size
                  have A29 := Lib.hid (A28.out.below hbe29)
                  clear hbe29
                  refine hK.out _ _ (range_below hR8 B29.out) (fun _ => ?_)
                  try simp only [Act.put, List.setIfInBounds_toArray, List.set_cons_zero, List.set_cons_succ]
                  refine take_at (i := 11) (k := 41) (v := .tuple #[dgv zeros, .int .i64 1]) rfl rfl (by kernel_rfl) (by kernel_rfl) (by kernel_rfl) (fun _ _ _ h => h) (Or.inl ⟨by rfl, fun w _ => rfl⟩) (range_below hR8 B29.out) ?_
                  try simp only [Act.put, List.setIfInBounds_toArray, List.set_cons_zero, List.set_cons_succ]
                  refine take_at (i := 12) (k := 53) (v := dgv zeros) rfl rfl (by kernel_rfl) (by kernel_rfl) (by kernel_rfl) (fun _ _ _ h => h) (Or.inl ⟨by rfl, fun w _ => rfl⟩) (range_below hR8 B29.out) ?_
                  try simp only [Act.put, List.setIfInBounds_toArray, List.set_cons_zero, List.set_cons_succ]
                  refine take_at (i := 13) (k := 54) (v := .int .i64 1) rfl rfl (by kernel_rfl) (by kernel_rfl) (by kernel_rfl) (fun _ _ _ h => h) (Or.inl ⟨by rfl, fun w _ => rfl⟩) (range_below hR8 B29.out) ?_
                  try simp only [Act.put, List.setIfInBounds_toArray, List.set_cons_zero, List.set_cons_succ]
                  try simp only [Act.put, List.setIfInBounds_toArray, List.set_cons_zero, List.set_cons_succ]
                  clear hK K
                  refine wpAnyH_ready (rs := [15]) (by kernel_rfl) (by simp) ?_
                  refine AllReadyH.cons rfl (fun K hK => ?_) AllReadyH.nil
                  · rw [if_pos (by rfl)]
                    refine wp_st (.tmp 11) (.tmp 53) rfl rfl g28 zeros zeros A29.out (by simp [zeros]) (by simp [zeros]) rfl rfl ?_
                    intro U30 hd30 hc30
                    have B30 := Lib.hid (Chg.below B29.out B29.out.size (by omega) hc30)
                    clear hc30 hd30
                    refine hK.out _ _ (range_below hR8 B30.out) (fun _ => ?_)
                    try simp only [Act.put, List.setIfInBounds_toArray, List.set_cons_zero, List.set_cons_succ]
                    clear hK K
                    refine take_at (i := 16) (k := 12) (v := .int .i64 1) rfl rfl (by kernel_rfl) (by kernel_rfl) (by kernel_rfl) (fun _ _ _ h => h) (Or.inl ⟨by rfl, fun w _ => rfl⟩) (range_below hR8 B30.out) ?_
                    try simp only [Act.put, List.setIfInBounds_toArray, List.set_cons_zero, List.set_cons_succ]
                    refine wpAnyH_done (by kernel_rfl) ?_ _
                    have BF := B30
                    have hg9 := hd8.out.below BF.out
                    have hg4 := hT8.out.below BF.out
                    have HG9 := Lib.hid hg9
                    have HG4 := Lib.hid hg4
                    clear hg9 hg4 hR8
                    go_wp2_with (first
                      | (refine dg_load_g rfl (.tmp 9) rfl g9 (T l) HG9.out (T_len _) rfl ?_)
                      | (refine dg_load_g rfl (.tmp 4) rfl g (T l) HG4.out (T_len _) rfl ?_))
                    go_roundw
                    case rel => exact ⟨k + 1, by omega, by go_num, Lib.hid (hW8.out.trans (BF.out.mono hW8.out.size))⟩
                    case measure => simp [intOf]; omega
            · rw [if_pos (by rfl)]
              refine wp_al rfl rfl ?_
              intro U31 g31 hbe31 hge31 hlt31 A31
              have B31 := Lib.hid (B23.out.trans (hbe31.mono B23.out.size))
              have hz31 := B23.out.size
              have O31 := Lib.hid (OwnN.later O23.out hbe31)
              have L31 := Lib.hid (L23.out.below hbe31)
              have hy31 := hbe31.size
              have ob31 : ∀ j, (v23 : Value).ownBlock = some j → w8.heap.size ≤ j ∧ g22 ≠ j ∧ g31 ≠ j := fun j e => by
                have h0 := ob23 j e
                have h1 := OwnN.lt O23.out e
                exact ⟨h0.1, h0.2, by omega⟩
              clear hbe31
              refine hK.out _ _ (range_below hR8 B31.out) (fun _ => ?_)
              try simp only [Act.put, List.setIfInBounds_toArray, List.set_cons_zero, List.set_cons_succ]
              clear hK K
              refine wpAnyH_ready (rs := [9]) (by kernel_rfl) (by simp) ?_
              refine AllReadyH.cons rfl (fun K hK => ?_) AllReadyH.nil
              · rw [if_pos (by rfl)]
                refine wp_ap rfl (.tmp 48) (.tmp 50) rfl (v23) (.slice (some ⟨g22, 0, none⟩) 1 1) (([] : List (List UInt8)) ++ (PA l k)) [d] rfl O31.out rfl L31.out hd32s.out (by simp; omega) ?_
                intro v32 U32 O32 hg32 hv32
                have B32 := Lib.hid (grown_below B31.out B31.out.size hg32 (fun j e => (ob31 j e).1))
                have hz32 := B31.out.size
                have hy32 := hg32.size
                have A32 := Lib.hid (keep_grown A31.out hg32 (fun j e => (ob31 j e).2.2))
                have ob32 : ∀ j, v32.ownBlock = some j → w8.heap.size ≤ j ∧ g31 ≠ j := fun j e => by
                  rcases hv32 with h | ⟨j', h, h'⟩
                  · rw [h] at e
                    have h0 := ob31 j e
                    exact ⟨h0.1, h0.2.2⟩
                  · rw [h] at e
                    have e' : j' = j := Option.some.inj e
                    subst e'
                    exact ⟨by omega, by omega⟩
                clear hg32 hv32
                refine hK.out _ _ (range_below hR8 B32.out) (fun _ => ?_)
                try simp only [Act.put, List.setIfInBounds_toArray, List.set_cons_zero, List.set_cons_succ]
                clear hK K
                refine wpAnyH_ready (rs := [10]) (by kernel_rfl) (by simp) ?_
                refine AllReadyH.cons rfl (fun K hK => ?_) AllReadyH.nil
                · rw [if_pos (by rfl)]
                  obtain ⟨q33, m33, c33, e33, i33⟩ : ∃ q m c, v32 = .slice q m c ∧ m = ((([] : List (List UInt8)) ++ (PA l k)) ++ [d]).length := by
                    rcases O32.out with ⟨e1, e2, _⟩ | ⟨gg, cc, e1, _⟩
                    · exact ⟨_, _, _, e1, e2.symm⟩
                    · exact ⟨_, _, _, e1, rfl⟩
                  have im33 : m33 ≠ PL k n := by rw [i33]; have := HPL.out; simp; omega
                  rw [e33]
                  clear i33
                  go_simp
                  go_at_call 22
                  refine (climb_len d k n q33 m33 c33 U32 (by omega) (by omega) hlt im33).mono ?_
                  rintro e U33 ⟨rfl, hbe33⟩
                  have B33 := Lib.hid (B32.out.trans (hbe33.mono B32.out.size))
                  have hz33 := B32.out.size
                  have A33 := Lib.hid (A32.out.below hbe33)
                  clear hbe33
                  refine hK.out _ _ (range_below hR8 B33.out) (fun _ => ?_)
                  try simp only [Act.put, List.setIfInBounds_toArray, List.set_cons_zero, List.set_cons_succ]
                  refine take_at (i := 11) (k := 41) (v := .tuple #[dgv zeros, .int .i64 1]) rfl rfl (by kernel_rfl) (by kernel_rfl) (by kernel_rfl) (fun _ _ _ h => h) (Or.inl ⟨by rfl, fun w _ => rfl⟩) (range_below hR8 B33.out) ?_
                  try simp only [Act.put, List.setIfInBounds_toArray, List.set_cons_zero, List.set_cons_succ]
                  refine take_at (i := 12) (k := 53) (v := dgv zeros) rfl rfl (by kernel_rfl) (by kernel_rfl) (by kernel_rfl) (fun _ _ _ h => h) (Or.inl ⟨by rfl, fun w _ => rfl⟩) (range_below hR8 B33.out) ?_
                  try simp only [Act.put, List.setIfInBounds_toArray, List.set_cons_zero, List.set_cons_succ]
                  refine take_at (i := 13) (k := 54) (v := .int .i64 1) rfl rfl (by kernel_rfl) (by kernel_rfl) (by kernel_rfl) (fun _ _ _ h => h) (Or.inl ⟨by rfl, fun w _ => rfl⟩) (range_below hR8 B33.out) ?_
                  try simp only [Act.put, List.setIfInBounds_toArray, List.set_cons_zero, List.set_cons_succ]
                  try simp only [Act.put, List.setIfInBounds_toArray, List.set_cons_zero, List.set_cons_succ]
                  clear hK K
                  refine wpAnyH_ready (rs := [15]) (by kernel_rfl) (by simp) ?_
                  refine AllReadyH.cons rfl (fun K hK => ?_) AllReadyH.nil
                  · rw [if_pos (by rfl)]
                    refine wp_st (.tmp 11) (.tmp 53) rfl rfl g31 zeros zeros A33.out (by simp [zeros]) (by simp [zeros]) rfl rfl ?_
                    intro U34 hd34 hc34
                    have B34 := Lib.hid (Chg.below B33.out B33.out.size (by omega) hc34)
                    clear hc34 hd34
                    refine hK.out _ _ (range_below hR8 B34.out) (fun _ => ?_)
                    try simp only [Act.put, List.setIfInBounds_toArray, List.set_cons_zero, List.set_cons_succ]
                    clear hK K
                    refine take_at (i := 16) (k := 12) (v := .int .i64 1) rfl rfl (by kernel_rfl) (by kernel_rfl) (by kernel_rfl) (fun _ _ _ h => h) (Or.inl ⟨by rfl, fun w _ => rfl⟩) (range_below hR8 B34.out) ?_
                    try simp only [Act.put, List.setIfInBounds_toArray, List.set_cons_zero, List.set_cons_succ]
                    refine wpAnyH_done (by kernel_rfl) ?_ _
                    have BF := B34
                    have hg9 := hd8.out.below BF.out
                    have hg4 := hT8.out.below BF.out
                    have HG9 := Lib.hid hg9
                    have HG4 := Lib.hid hg4
                    clear hg9 hg4 hR8
                    go_wp2_with (first
                      | (refine dg_load_g rfl (.tmp 9) rfl g9 (T l) HG9.out (T_len _) rfl ?_)
                      | (refine dg_load_g rfl (.tmp 4) rfl g (T l) HG4.out (T_len _) rfl ?_))
                    go_roundw
                    case rel => exact ⟨k + 1, by omega, by go_num, Lib.hid (hW8.out.trans (BF.out.mono hW8.out.size))⟩
                    case measure => simp [intOf]; omega
          · rw [if_pos (by rfl)]
            refine wp_al rfl rfl ?_
            intro U35 g35 hbe35 hge35 hlt35 A35
            have B35 := Lib.hid (B22.out.trans (hbe35.mono B22.out.size))
            have hz35 := B22.out.size
            have O35 := Lib.hid (OwnN.later O22.out hbe35)
            have L35 := Lib.hid (L22.out.below hbe35)
            have hy35 := hbe35.size
            have ob35 : ∀ j, (.slice (some ⟨g3, 0, none⟩) 0 0 : Value).ownBlock = some j → w8.heap.size ≤ j ∧ g22 ≠ j ∧ g35 ≠ j := fun j e => by
              have h0 := ob22 j e
              have h1 := OwnN.lt O22.out e
              exact ⟨h0.1, h0.2, by omega⟩
            clear hbe35
            refine hK.out _ _ (range_below hR8 B35.out) (fun _ => ?_)
            try simp only [Act.put, List.setIfInBounds_toArray, List.set_cons_zero, List.set_cons_succ]
            clear hK K
            refine wpAnyH_ready (rs := [6]) (by kernel_rfl) (by simp) ?_
            refine AllReadyH.cons rfl (fun K hK => ?_) AllReadyH.nil
            · rw [if_pos (by rfl)]
              refine wp_ap rfl (.tmp 46) (.tmp 47) rfl (.slice (some ⟨g3, 0, none⟩) 0 0) (.slice pp (PA l k).length pc) ([] : List (List UInt8)) (PA l k) rfl O35.out rfl (hP8.out.below B35.out) HP32.out (by simp; omega) ?_
              intro v36 U36 O36 hg36 hv36
              have B36 := Lib.hid (grown_below B35.out B35.out.size hg36 (fun j e => (ob35 j e).1))
              have hz36 := B35.out.size
              have hy36 := hg36.size
              have A36 := Lib.hid (keep_grown A35.out hg36 (fun j e => (ob35 j e).2.2))
              have L36 := Lib.hid (ld_grown L35.out hg36 (fun j e => (ob35 j e).2.1))
              have ob36 : ∀ j, v36.ownBlock = some j → w8.heap.size ≤ j ∧ g22 ≠ j ∧ g35 ≠ j := fun j e => by
                rcases hv36 with h | ⟨j', h, h'⟩
                · rw [h] at e
                  have h0 := ob35 j e
                  exact ⟨h0.1, h0.2.1, h0.2.2⟩
                · rw [h] at e
                  have e' : j' = j := Option.some.inj e
                  subst e'
                  exact ⟨by omega, by omega, by omega⟩
              clear hg36 hv36
              refine hK.out _ _ (range_below hR8 B36.out) (fun _ => ?_)
              try simp only [Act.put, List.setIfInBounds_toArray, List.set_cons_zero, List.set_cons_succ]
              clear hK K
              refine wpAnyH_ready (rs := [9]) (by kernel_rfl) (by simp) ?_
              refine AllReadyH.cons rfl (fun K hK => ?_) AllReadyH.nil
              · rw [if_pos (by rfl)]
                refine wp_ap rfl (.tmp 48) (.tmp 50) rfl (v36) (.slice (some ⟨g22, 0, none⟩) 1 1) (([] : List (List UInt8)) ++ (PA l k)) [d] rfl O36.out rfl L36.out hd32s.out (by simp; omega) ?_
                intro v37 U37 O37 hg37 hv37
                have B37 := Lib.hid (grown_below B36.out B36.out.size hg37 (fun j e => (ob36 j e).1))
                have hz37 := B36.out.size
                have hy37 := hg37.size
                have A37 := Lib.hid (keep_grown A36.out hg37 (fun j e => (ob36 j e).2.2))
                have ob37 : ∀ j, v37.ownBlock = some j → w8.heap.size ≤ j ∧ g35 ≠ j := fun j e => by
                  rcases hv37 with h | ⟨j', h, h'⟩
                  · rw [h] at e
                    have h0 := ob36 j e
                    exact ⟨h0.1, h0.2.2⟩
                  · rw [h] at e
                    have e' : j' = j := Option.some.inj e
                    subst e'
                    exact ⟨by omega, by omega⟩
                clear hg37 hv37
                refine hK.out _ _ (range_below hR8 B37.out) (fun _ => ?_)
                try simp only [Act.put, List.setIfInBounds_toArray, List.set_cons_zero, List.set_cons_succ]
                clear hK K
                refine wpAnyH_ready (rs := [10]) (by kernel_rfl) (by simp) ?_
                refine AllReadyH.cons rfl (fun K hK => ?_) AllReadyH.nil
                · rw [if_pos (by rfl)]
                  obtain ⟨q38, m38, c38, e38, i38⟩ : ∃ q m c, v37 = .slice q m c ∧ m = ((([] : List (List UInt8)) ++ (PA l k)) ++ [d]).length := by
                    rcases O37.out with ⟨e1, e2, _⟩ | ⟨gg, cc, e1, _⟩
                    · exact ⟨_, _, _, e1, e2.symm⟩
                    · exact ⟨_, _, _, e1, rfl⟩
                  have im38 : m38 ≠ PL k n := by rw [i38]; have := HPL.out; simp; omega
                  rw [e38]
                  clear i38
                  go_simp
                  go_at_call 22
                  refine (climb_len d k n q38 m38 c38 U37 (by omega) (by omega) hlt im38).mono ?_
                  rintro e U38 ⟨rfl, hbe38⟩
                  have B38 := Lib.hid (B37.out.trans (hbe38.mono B37.out.size))
                  have hz38 := B37.out.size
                  have A38 := Lib.hid (A37.out.below hbe38)
                  clear hbe38
                  refine hK.out _ _ (range_below hR8 B38.out) (fun _ => ?_)
                  try simp only [Act.put, List.setIfInBounds_toArray, List.set_cons_zero, List.set_cons_succ]
                  refine take_at (i := 11) (k := 41) (v := .tuple #[dgv zeros, .int .i64 1]) rfl rfl (by kernel_rfl) (by kernel_rfl) (by kernel_rfl) (fun _ _ _ h => h) (Or.inl ⟨by rfl, fun w _ => rfl⟩) (range_below hR8 B38.out) ?_
                  try simp only [Act.put, List.setIfInBounds_toArray, List.set_cons_zero, List.set_cons_succ]
                  refine take_at (i := 12) (k := 53) (v := dgv zeros) rfl rfl (by kernel_rfl) (by kernel_rfl) (by kernel_rfl) (fun _ _ _ h => h) (Or.inl ⟨by rfl, fun w _ => rfl⟩) (range_below hR8 B38.out) ?_
                  try simp only [Act.put, List.setIfInBounds_toArray, List.set_cons_zero, List.set_cons_succ]
                  refine take_at (i := 13) (k := 54) (v := .int .i64 1) rfl rfl (by kernel_rfl) (by kernel_rfl) (by kernel_rfl) (fun _ _ _ h => h) (Or.inl ⟨by rfl, fun w _ => rfl⟩) (range_below hR8 B38.out) ?_
                  try simp only [Act.put, List.setIfInBounds_toArray, List.set_cons_zero, List.set_cons_succ]
                  try simp only [Act.put, List.setIfInBounds_toArray, List.set_cons_zero, List.set_cons_succ]
                  clear hK K
                  refine wpAnyH_ready (rs := [15]) (by kernel_rfl) (by simp) ?_
                  refine AllReadyH.cons rfl (fun K hK => ?_) AllReadyH.nil
                  · rw [if_pos (by rfl)]
                    refine wp_st (.tmp 11) (.tmp 53) rfl rfl g35 zeros zeros A38.out (by simp [zeros]) (by simp [zeros]) rfl rfl ?_
                    intro U39 hd39 hc39
                    have B39 := Lib.hid (Chg.below B38.out B38.out.size (by omega) hc39)
                    clear hc39 hd39
                    refine hK.out _ _ (range_below hR8 B39.out) (fun _ => ?_)
                    try simp only [Act.put, List.setIfInBounds_toArray, List.set_cons_zero, List.set_cons_succ]
                    clear hK K
                    refine take_at (i := 16) (k := 12) (v := .int .i64 1) rfl rfl (by kernel_rfl) (by kernel_rfl) (by kernel_rfl) (fun _ _ _ h => h) (Or.inl ⟨by rfl, fun w _ => rfl⟩) (range_below hR8 B39.out) ?_
                    try simp only [Act.put, List.setIfInBounds_toArray, List.set_cons_zero, List.set_cons_succ]
                    refine wpAnyH_done (by kernel_rfl) ?_ _
                    have BF := B39
                    have hg9 := hd8.out.below BF.out
                    have hg4 := hT8.out.below BF.out
                    have HG9 := Lib.hid hg9
                    have HG4 := Lib.hid hg4
                    clear hg9 hg4 hR8
                    go_wp2_with (first
                      | (refine dg_load_g rfl (.tmp 9) rfl g9 (T l) HG9.out (T_len _) rfl ?_)
                      | (refine dg_load_g rfl (.tmp 4) rfl g (T l) HG4.out (T_len _) rfl ?_))
                    go_roundw
                    case rel => exact ⟨k + 1, by omega, by go_num, Lib.hid (hW8.out.trans (BF.out.mono hW8.out.size))⟩
                    case measure => simp [intOf]; omega
        · rw [if_pos (by rfl)]
          refine wp_al rfl rfl ?_
          intro U40 g40 hbe40 hge40 hlt40 A40
          have B40 := Lib.hid (B3.out.trans (hbe40.mono B3.out.size))
          have hz40 := B3.out.size
          have O40 := Lib.hid (OwnN.later O3.out hbe40)
          have hy40 := hbe40.size
          have ob40 : ∀ j, (.slice (some ⟨g3, 0, none⟩) 0 0 : Value).ownBlock = some j → w8.heap.size ≤ j ∧ g40 ≠ j := fun j e => by
            have h0 := ob3 j e
            have h1 := OwnN.lt O3.out e
            exact ⟨h0, by omega⟩
          clear hbe40
          refine hK.out _ _ (range_below hR8 B40.out) (fun _ => ?_)
          try simp only [Act.put, List.setIfInBounds_toArray, List.set_cons_zero, List.set_cons_succ]
          clear hK K
          refine wpAnyH_ready (rs := [6, 8]) (by kernel_rfl) (by simp) ?_
          refine AllReadyH.cons rfl (fun K hK => ?_) (AllReadyH.cons rfl (fun K hK => ?_) AllReadyH.nil)
          · rw [if_pos (by rfl)]
            refine wp_ap rfl (.tmp 46) (.tmp 47) rfl (.slice (some ⟨g3, 0, none⟩) 0 0) (.slice pp (PA l k).length pc) ([] : List (List UInt8)) (PA l k) rfl O40.out rfl (hP8.out.below B40.out) HP32.out (by simp; omega) ?_
            intro v41 U41 O41 hg41 hv41
            have B41 := Lib.hid (grown_below B40.out B40.out.size hg41 (fun j e => (ob40 j e).1))
            have hz41 := B40.out.size
            have hy41 := hg41.size
            have A41 := Lib.hid (keep_grown A40.out hg41 (fun j e => (ob40 j e).2))
            have ob41 : ∀ j, v41.ownBlock = some j → w8.heap.size ≤ j ∧ g40 ≠ j := fun j e => by
              rcases hv41 with h | ⟨j', h, h'⟩
              · rw [h] at e
                have h0 := ob40 j e
                exact ⟨h0.1, h0.2⟩
              · rw [h] at e
                have e' : j' = j := Option.some.inj e
                subst e'
                exact ⟨by omega, by omega⟩
            clear hg41 hv41
            refine hK.out _ _ (range_below hR8 B41.out) (fun _ => ?_)
            try simp only [Act.put, List.setIfInBounds_toArray, List.set_cons_zero, List.set_cons_succ]
            clear hK K
            refine wpAnyH_ready (rs := [8]) (by kernel_rfl) (by simp) ?_
            refine AllReadyH.cons rfl (fun K hK => ?_) AllReadyH.nil
            · rw [if_pos (by rfl)]
              refine wp_b1 rfl 49 rfl d rfl HD32.out ?_
              intro U42 g42 hbe42 hge42 hlt42 L42
              have B42 := Lib.hid (B41.out.trans (hbe42.mono B41.out.size))
              have hz42 := B41.out.size
              have O42 := Lib.hid (OwnN.later O41.out hbe42)
              have A42 := Lib.hid (A41.out.below hbe42)
              have hy42 := hbe42.size
              have ob42 : ∀ j, (v41 : Value).ownBlock = some j → w8.heap.size ≤ j ∧ g42 ≠ j ∧ g40 ≠ j := fun j e => by
                have h0 := ob41 j e
                have h1 := OwnN.lt O41.out e
                exact ⟨h0.1, by omega, h0.2⟩
              clear hbe42
              refine hK.out _ _ (range_below hR8 B42.out) (fun _ => ?_)
              try simp only [Act.put, List.setIfInBounds_toArray, List.set_cons_zero, List.set_cons_succ]
              clear hK K
              refine wpAnyH_ready (rs := [9]) (by kernel_rfl) (by simp) ?_
              refine AllReadyH.cons rfl (fun K hK => ?_) AllReadyH.nil
              · rw [if_pos (by rfl)]
                refine wp_ap rfl (.tmp 48) (.tmp 50) rfl (v41) (.slice (some ⟨g42, 0, none⟩) 1 1) (([] : List (List UInt8)) ++ (PA l k)) [d] rfl O42.out rfl L42.out hd32s.out (by simp; omega) ?_
                intro v43 U43 O43 hg43 hv43
                have B43 := Lib.hid (grown_below B42.out B42.out.size hg43 (fun j e => (ob42 j e).1))
                have hz43 := B42.out.size
                have hy43 := hg43.size
                have A43 := Lib.hid (keep_grown A42.out hg43 (fun j e => (ob42 j e).2.2))
                have ob43 : ∀ j, v43.ownBlock = some j → w8.heap.size ≤ j ∧ g40 ≠ j := fun j e => by
                  rcases hv43 with h | ⟨j', h, h'⟩
                  · rw [h] at e
                    have h0 := ob42 j e
                    exact ⟨h0.1, h0.2.2⟩
                  · rw [h] at e
                    have e' : j' = j := Option.some.inj e
                    subst e'
                    exact ⟨by omega, by omega⟩
                clear hg43 hv43
                refine hK.out _ _ (range_below hR8 B43.out) (fun _ => ?_)
                try simp only [Act.put, List.setIfInBounds_toArray, List.set_cons_zero, List.set_cons_succ]
                clear hK K
                refine wpAnyH_ready (rs := [10]) (by kernel_rfl) (by simp) ?_
                refine AllReadyH.cons rfl (fun K hK => ?_) AllReadyH.nil
                · rw [if_pos (by rfl)]
                  obtain ⟨q44, m44, c44, e44, i44⟩ : ∃ q m c, v43 = .slice q m c ∧ m = ((([] : List (List UInt8)) ++ (PA l k)) ++ [d]).length := by
                    rcases O43.out with ⟨e1, e2, _⟩ | ⟨gg, cc, e1, _⟩
                    · exact ⟨_, _, _, e1, e2.symm⟩
                    · exact ⟨_, _, _, e1, rfl⟩
                  have im44 : m44 ≠ PL k n := by rw [i44]; have := HPL.out; simp; omega
                  rw [e44]
                  clear i44
                  go_simp
                  go_at_call 22
                  refine (climb_len d k n q44 m44 c44 U43 (by omega) (by omega) hlt im44).mono ?_
                  rintro e U44 ⟨rfl, hbe44⟩
                  have B44 := Lib.hid (B43.out.trans (hbe44.mono B43.out.size))
                  have hz44 := B43.out.size
                  have A44 := Lib.hid (A43.out.below hbe44)
                  clear hbe44
                  refine hK.out _ _ (range_below hR8 B44.out) (fun _ => ?_)
                  try simp only [Act.put, List.setIfInBounds_toArray, List.set_cons_zero, List.set_cons_succ]
                  refine take_at (i := 11) (k := 41) (v := .tuple #[dgv zeros, .int .i64 1]) rfl rfl (by kernel_rfl) (by kernel_rfl) (by kernel_rfl) (fun _ _ _ h => h) (Or.inl ⟨by rfl, fun w _ => rfl⟩) (range_below hR8 B44.out) ?_
                  try simp only [Act.put, List.setIfInBounds_toArray, List.set_cons_zero, List.set_cons_succ]
                  refine take_at (i := 12) (k := 53) (v := dgv zeros) rfl rfl (by kernel_rfl) (by kernel_rfl) (by kernel_rfl) (fun _ _ _ h => h) (Or.inl ⟨by rfl, fun w _ => rfl⟩) (range_below hR8 B44.out) ?_
                  try simp only [Act.put, List.setIfInBounds_toArray, List.set_cons_zero, List.set_cons_succ]
                  refine take_at (i := 13) (k := 54) (v := .int .i64 1) rfl rfl (by kernel_rfl) (by kernel_rfl) (by kernel_rfl) (fun _ _ _ h => h) (Or.inl ⟨by rfl, fun w _ => rfl⟩) (range_below hR8 B44.out) ?_
                  try simp only [Act.put, List.setIfInBounds_toArray, List.set_cons_zero, List.set_cons_succ]
                  try simp only [Act.put, List.setIfInBounds_toArray, List.set_cons_zero, List.set_cons_succ]
                  clear hK K
                  refine wpAnyH_ready (rs := [15]) (by kernel_rfl) (by simp) ?_
                  refine AllReadyH.cons rfl (fun K hK => ?_) AllReadyH.nil
                  · rw [if_pos (by rfl)]
                    refine wp_st (.tmp 11) (.tmp 53) rfl rfl g40 zeros zeros A44.out (by simp [zeros]) (by simp [zeros]) rfl rfl ?_
                    intro U45 hd45 hc45
                    have B45 := Lib.hid (Chg.below B44.out B44.out.size (by omega) hc45)
                    clear hc45 hd45
                    refine hK.out _ _ (range_below hR8 B45.out) (fun _ => ?_)
                    try simp only [Act.put, List.setIfInBounds_toArray, List.set_cons_zero, List.set_cons_succ]
                    clear hK K
                    refine take_at (i := 16) (k := 12) (v := .int .i64 1) rfl rfl (by kernel_rfl) (by kernel_rfl) (by kernel_rfl) (fun _ _ _ h => h) (Or.inl ⟨by rfl, fun w _ => rfl⟩) (range_below hR8 B45.out) ?_
                    try simp only [Act.put, List.setIfInBounds_toArray, List.set_cons_zero, List.set_cons_succ]
                    refine wpAnyH_done (by kernel_rfl) ?_ _
                    have BF := B45
                    have hg9 := hd8.out.below BF.out
                    have hg4 := hT8.out.below BF.out
                    have HG9 := Lib.hid hg9
                    have HG4 := Lib.hid hg4
                    clear hg9 hg4 hR8
                    go_wp2_with (first
                      | (refine dg_load_g rfl (.tmp 9) rfl g9 (T l) HG9.out (T_len _) rfl ?_)
                      | (refine dg_load_g rfl (.tmp 4) rfl g (T l) HG4.out (T_len _) rfl ?_))
                    go_roundw
                    case rel => exact ⟨k + 1, by omega, by go_num, Lib.hid (hW8.out.trans (BF.out.mono hW8.out.size))⟩
                    case measure => simp [intOf]; omega
          · rw [if_pos (by rfl)]
            refine wp_b1 rfl 49 rfl d rfl HD32.out ?_
            intro U46 g46 hbe46 hge46 hlt46 L46
            have B46 := Lib.hid (B40.out.trans (hbe46.mono B40.out.size))
            have hz46 := B40.out.size
            have O46 := Lib.hid (OwnN.later O40.out hbe46)
            have A46 := Lib.hid (A40.out.below hbe46)
            have hy46 := hbe46.size
            have ob46 : ∀ j, (.slice (some ⟨g3, 0, none⟩) 0 0 : Value).ownBlock = some j → w8.heap.size ≤ j ∧ g46 ≠ j ∧ g40 ≠ j := fun j e => by
              have h0 := ob40 j e
              have h1 := OwnN.lt O40.out e
              exact ⟨h0.1, by omega, h0.2⟩
            clear hbe46
            refine hK.out _ _ (range_below hR8 B46.out) (fun _ => ?_)
            try simp only [Act.put, List.setIfInBounds_toArray, List.set_cons_zero, List.set_cons_succ]
            clear hK K
            refine wpAnyH_ready (rs := [6]) (by kernel_rfl) (by simp) ?_
            refine AllReadyH.cons rfl (fun K hK => ?_) AllReadyH.nil
            · rw [if_pos (by rfl)]
              refine wp_ap rfl (.tmp 46) (.tmp 47) rfl (.slice (some ⟨g3, 0, none⟩) 0 0) (.slice pp (PA l k).length pc) ([] : List (List UInt8)) (PA l k) rfl O46.out rfl (hP8.out.below B46.out) HP32.out (by simp; omega) ?_
              intro v47 U47 O47 hg47 hv47
              have B47 := Lib.hid (grown_below B46.out B46.out.size hg47 (fun j e => (ob46 j e).1))
              have hz47 := B46.out.size
              have hy47 := hg47.size
              have A47 := Lib.hid (keep_grown A46.out hg47 (fun j e => (ob46 j e).2.2))
              have L47 := Lib.hid (ld_grown L46.out hg47 (fun j e => (ob46 j e).2.1))
              have ob47 : ∀ j, v47.ownBlock = some j → w8.heap.size ≤ j ∧ g46 ≠ j ∧ g40 ≠ j := fun j e => by
                rcases hv47 with h | ⟨j', h, h'⟩
                · rw [h] at e
                  have h0 := ob46 j e
                  exact ⟨h0.1, h0.2.1, h0.2.2⟩
                · rw [h] at e
                  have e' : j' = j := Option.some.inj e
                  subst e'
                  exact ⟨by omega, by omega, by omega⟩
              clear hg47 hv47
              refine hK.out _ _ (range_below hR8 B47.out) (fun _ => ?_)
              try simp only [Act.put, List.setIfInBounds_toArray, List.set_cons_zero, List.set_cons_succ]
              clear hK K
              refine wpAnyH_ready (rs := [9]) (by kernel_rfl) (by simp) ?_
              refine AllReadyH.cons rfl (fun K hK => ?_) AllReadyH.nil
              · rw [if_pos (by rfl)]
                refine wp_ap rfl (.tmp 48) (.tmp 50) rfl (v47) (.slice (some ⟨g46, 0, none⟩) 1 1) (([] : List (List UInt8)) ++ (PA l k)) [d] rfl O47.out rfl L47.out hd32s.out (by simp; omega) ?_
                intro v48 U48 O48 hg48 hv48
                have B48 := Lib.hid (grown_below B47.out B47.out.size hg48 (fun j e => (ob47 j e).1))
                have hz48 := B47.out.size
                have hy48 := hg48.size
                have A48 := Lib.hid (keep_grown A47.out hg48 (fun j e => (ob47 j e).2.2))
                have ob48 : ∀ j, v48.ownBlock = some j → w8.heap.size ≤ j ∧ g40 ≠ j := fun j e => by
                  rcases hv48 with h | ⟨j', h, h'⟩
                  · rw [h] at e
                    have h0 := ob47 j e
                    exact ⟨h0.1, h0.2.2⟩
                  · rw [h] at e
                    have e' : j' = j := Option.some.inj e
                    subst e'
                    exact ⟨by omega, by omega⟩
                clear hg48 hv48
                refine hK.out _ _ (range_below hR8 B48.out) (fun _ => ?_)
                try simp only [Act.put, List.setIfInBounds_toArray, List.set_cons_zero, List.set_cons_succ]
                clear hK K
                refine wpAnyH_ready (rs := [10]) (by kernel_rfl) (by simp) ?_
                refine AllReadyH.cons rfl (fun K hK => ?_) AllReadyH.nil
                · rw [if_pos (by rfl)]
                  obtain ⟨q49, m49, c49, e49, i49⟩ : ∃ q m c, v48 = .slice q m c ∧ m = ((([] : List (List UInt8)) ++ (PA l k)) ++ [d]).length := by
                    rcases O48.out with ⟨e1, e2, _⟩ | ⟨gg, cc, e1, _⟩
                    · exact ⟨_, _, _, e1, e2.symm⟩
                    · exact ⟨_, _, _, e1, rfl⟩
                  have im49 : m49 ≠ PL k n := by rw [i49]; have := HPL.out; simp; omega
                  rw [e49]
                  clear i49
                  go_simp
                  go_at_call 22
                  refine (climb_len d k n q49 m49 c49 U48 (by omega) (by omega) hlt im49).mono ?_
                  rintro e U49 ⟨rfl, hbe49⟩
                  have B49 := Lib.hid (B48.out.trans (hbe49.mono B48.out.size))
                  have hz49 := B48.out.size
                  have A49 := Lib.hid (A48.out.below hbe49)
                  clear hbe49
                  refine hK.out _ _ (range_below hR8 B49.out) (fun _ => ?_)
                  try simp only [Act.put, List.setIfInBounds_toArray, List.set_cons_zero, List.set_cons_succ]
                  refine take_at (i := 11) (k := 41) (v := .tuple #[dgv zeros, .int .i64 1]) rfl rfl (by kernel_rfl) (by kernel_rfl) (by kernel_rfl) (fun _ _ _ h => h) (Or.inl ⟨by rfl, fun w _ => rfl⟩) (range_below hR8 B49.out) ?_
                  try simp only [Act.put, List.setIfInBounds_toArray, List.set_cons_zero, List.set_cons_succ]
                  refine take_at (i := 12) (k := 53) (v := dgv zeros) rfl rfl (by kernel_rfl) (by kernel_rfl) (by kernel_rfl) (fun _ _ _ h => h) (Or.inl ⟨by rfl, fun w _ => rfl⟩) (range_below hR8 B49.out) ?_
                  try simp only [Act.put, List.setIfInBounds_toArray, List.set_cons_zero, List.set_cons_succ]
                  refine take_at (i := 13) (k := 54) (v := .int .i64 1) rfl rfl (by kernel_rfl) (by kernel_rfl) (by kernel_rfl) (fun _ _ _ h => h) (Or.inl ⟨by rfl, fun w _ => rfl⟩) (range_below hR8 B49.out) ?_
                  try simp only [Act.put, List.setIfInBounds_toArray, List.set_cons_zero, List.set_cons_succ]
                  try simp only [Act.put, List.setIfInBounds_toArray, List.set_cons_zero, List.set_cons_succ]
                  clear hK K
                  refine wpAnyH_ready (rs := [15]) (by kernel_rfl) (by simp) ?_
                  refine AllReadyH.cons rfl (fun K hK => ?_) AllReadyH.nil
                  · rw [if_pos (by rfl)]
                    refine wp_st (.tmp 11) (.tmp 53) rfl rfl g40 zeros zeros A49.out (by simp [zeros]) (by simp [zeros]) rfl rfl ?_
                    intro U50 hd50 hc50
                    have B50 := Lib.hid (Chg.below B49.out B49.out.size (by omega) hc50)
                    clear hc50 hd50
                    refine hK.out _ _ (range_below hR8 B50.out) (fun _ => ?_)
                    try simp only [Act.put, List.setIfInBounds_toArray, List.set_cons_zero, List.set_cons_succ]
                    clear hK K
                    refine take_at (i := 16) (k := 12) (v := .int .i64 1) rfl rfl (by kernel_rfl) (by kernel_rfl) (by kernel_rfl) (fun _ _ _ h => h) (Or.inl ⟨by rfl, fun w _ => rfl⟩) (range_below hR8 B50.out) ?_
                    try simp only [Act.put, List.setIfInBounds_toArray, List.set_cons_zero, List.set_cons_succ]
                    refine wpAnyH_done (by kernel_rfl) ?_ _
                    have BF := B50
                    have hg9 := hd8.out.below BF.out
                    have hg4 := hT8.out.below BF.out
                    have HG9 := Lib.hid hg9
                    have HG4 := Lib.hid hg4
                    clear hg9 hg4 hR8
                    go_wp2_with (first
                      | (refine dg_load_g rfl (.tmp 9) rfl g9 (T l) HG9.out (T_len _) rfl ?_)
                      | (refine dg_load_g rfl (.tmp 4) rfl g (T l) HG4.out (T_len _) rfl ?_))
                    go_roundw
                    case rel => exact ⟨k + 1, by omega, by go_num, Lib.hid (hW8.out.trans (BF.out.mono hW8.out.size))⟩
                    case measure => simp [intOf]; omega
      · rw [if_pos (by rfl)]
        refine wp_b1 rfl 49 rfl d rfl HD32.out ?_
        intro U51 g51 hbe51 hge51 hlt51 L51
        have B51 := Lib.hid (B2.out.trans (hbe51.mono B2.out.size))
        have hz51 := B2.out.size
        have hy51 := hbe51.size
        clear hbe51
        refine hK.out _ _ (range_below hR8 B51.out) (fun _ => ?_)
        try simp only [Act.put, List.setIfInBounds_toArray, List.set_cons_zero, List.set_cons_succ]
        clear hK K
        refine wpAnyH_ready (rs := [4, 14]) (by kernel_rfl) (by simp) ?_
        refine AllReadyH.cons rfl (fun K hK => ?_) (AllReadyH.cons rfl (fun K hK => ?_) AllReadyH.nil)
        · rw [if_pos (by rfl)]
          refine wp_b0 rfl rfl ?_
          intro U52 g52 hbe52 hge52 hlt52 O52
          have B52 := Lib.hid (B51.out.trans (hbe52.mono B51.out.size))
          have hz52 := B51.out.size
          have L52 := Lib.hid (L51.out.below hbe52)
          have hy52 := hbe52.size
          have ob52 : ∀ j, (Value.slice (some ⟨g52, 0, none⟩) 0 0).ownBlock = some j → w8.heap.size ≤ j ∧ g51 ≠ j := fun j e => by
            have e' : g52 = j := Option.some.inj e
            subst e'
            exact ⟨by omega, by omega⟩
          clear hbe52
          refine hK.out _ _ (range_below hR8 B52.out) (fun _ => ?_)
          try simp only [Act.put, List.setIfInBounds_toArray, List.set_cons_zero, List.set_cons_succ]
          clear hK K
          refine wpAnyH_ready (rs := [6, 14]) (by kernel_rfl) (by simp) ?_
          refine AllReadyH.cons rfl (fun K hK => ?_) (AllReadyH.cons rfl (fun K hK => ?_) AllReadyH.nil)
          · rw [if_pos (by rfl)]
            refine wp_ap rfl (.tmp 46) (.tmp 47) rfl (.slice (some ⟨g52, 0, none⟩) 0 0) (.slice pp (PA l k).length pc) ([] : List (List UInt8)) (PA l k) rfl O52.out rfl (hP8.out.below B52.out) HP32.out (by simp; omega) ?_
            intro v53 U53 O53 hg53 hv53
            have B53 := Lib.hid (grown_below B52.out B52.out.size hg53 (fun j e => (ob52 j e).1))
            have hz53 := B52.out.size
            have hy53 := hg53.size
            have L53 := Lib.hid (ld_grown L52.out hg53 (fun j e => (ob52 j e).2))
            have ob53 : ∀ j, v53.ownBlock = some j → w8.heap.size ≤ j ∧ g51 ≠ j := fun j e => by
              rcases hv53 with h | ⟨j', h, h'⟩
              · rw [h] at e
                have h0 := ob52 j e
                exact ⟨h0.1, h0.2⟩
              · rw [h] at e
                have e' : j' = j := Option.some.inj e
                subst e'
                exact ⟨by omega, by omega⟩
            clear hg53 hv53
            refine hK.out _ _ (range_below hR8 B53.out) (fun _ => ?_)
            try simp only [Act.put, List.setIfInBounds_toArray, List.set_cons_zero, List.set_cons_succ]
            clear hK K
            refine wpAnyH_ready (rs := [9, 14]) (by kernel_rfl) (by simp) ?_
            refine AllReadyH.cons rfl (fun K hK => ?_) (AllReadyH.cons rfl (fun K hK => ?_) AllReadyH.nil)
            · rw [if_pos (by rfl)]
              refine wp_ap rfl (.tmp 48) (.tmp 50) rfl (v53) (.slice (some ⟨g51, 0, none⟩) 1 1) (([] : List (List UInt8)) ++ (PA l k)) [d] rfl O53.out rfl L53.out hd32s.out (by simp; omega) ?_
              intro v54 U54 O54 hg54 hv54
              have B54 := Lib.hid (grown_below B53.out B53.out.size hg54 (fun j e => (ob53 j e).1))
              have hz54 := B53.out.size
              have hy54 := hg54.size
              have ob54 : ∀ j, v54.ownBlock = some j → w8.heap.size ≤ j := fun j e => by
                rcases hv54 with h | ⟨j', h, h'⟩
                · rw [h] at e
                  have h0 := ob53 j e
                  exact h0.1
                · rw [h] at e
                  have e' : j' = j := Option.some.inj e
                  subst e'
                  exact (by omega)
              clear hg54 hv54
              refine hK.out _ _ (range_below hR8 B54.out) (fun _ => ?_)
              try simp only [Act.put, List.setIfInBounds_toArray, List.set_cons_zero, List.set_cons_succ]
              clear hK K
              refine wpAnyH_ready (rs := [10, 14]) (by kernel_rfl) (by simp) ?_
              refine AllReadyH.cons rfl (fun K hK => ?_) (AllReadyH.cons rfl (fun K hK => ?_) AllReadyH.nil)
              · rw [if_pos (by rfl)]
                obtain ⟨q55, m55, c55, e55, i55⟩ : ∃ q m c, v54 = .slice q m c ∧ m = ((([] : List (List UInt8)) ++ (PA l k)) ++ [d]).length := by
                  rcases O54.out with ⟨e1, e2, _⟩ | ⟨gg, cc, e1, _⟩
                  · exact ⟨_, _, _, e1, e2.symm⟩
                  · exact ⟨_, _, _, e1, rfl⟩
                have im55 : m55 ≠ PL k n := by rw [i55]; have := HPL.out; simp; omega
                rw [e55]
                clear i55
                go_simp
                go_at_call 22
                refine (climb_len d k n q55 m55 c55 U54 (by omega) (by omega) hlt im55).mono ?_
                rintro e U55 ⟨rfl, hbe55⟩
                have B55 := Lib.hid (B54.out.trans (hbe55.mono B54.out.size))
                have hz55 := B54.out.size
                clear hbe55
                refine hK.out _ _ (range_below hR8 B55.out) (fun _ => ?_)
                try simp only [Act.put, List.setIfInBounds_toArray, List.set_cons_zero, List.set_cons_succ]
                refine take_at (i := 11) (k := 41) (v := .tuple #[dgv zeros, .int .i64 1]) rfl rfl (by kernel_rfl) (by kernel_rfl) (by kernel_rfl) (fun _ _ _ h => h) (Or.inl ⟨by rfl, fun w _ => rfl⟩) (range_below hR8 B55.out) ?_
                try simp only [Act.put, List.setIfInBounds_toArray, List.set_cons_zero, List.set_cons_succ]
                refine take_at (i := 12) (k := 53) (v := dgv zeros) rfl rfl (by kernel_rfl) (by kernel_rfl) (by kernel_rfl) (fun _ _ _ h => h) (Or.inl ⟨by rfl, fun w _ => rfl⟩) (range_below hR8 B55.out) ?_
                try simp only [Act.put, List.setIfInBounds_toArray, List.set_cons_zero, List.set_cons_succ]
                refine take_at (i := 13) (k := 54) (v := .int .i64 1) rfl rfl (by kernel_rfl) (by kernel_rfl) (by kernel_rfl) (fun _ _ _ h => h) (Or.inl ⟨by rfl, fun w _ => rfl⟩) (range_below hR8 B55.out) ?_
                try simp only [Act.put, List.setIfInBounds_toArray, List.set_cons_zero, List.set_cons_succ]
                try simp only [Act.put, List.setIfInBounds_toArray, List.set_cons_zero, List.set_cons_succ]
                clear hK K
                refine wpAnyH_ready (rs := [14]) (by kernel_rfl) (by simp) ?_
                refine AllReadyH.cons rfl (fun K hK => ?_) AllReadyH.nil
                · rw [if_pos (by rfl)]
                  refine wp_al rfl rfl ?_
                  intro U56 g56 hbe56 hge56 hlt56 A56
                  have B56 := Lib.hid (B55.out.trans (hbe56.mono B55.out.size))
                  have hz56 := B55.out.size
                  have hy56 := hbe56.size
                  clear hbe56
                  refine hK.out _ _ (range_below hR8 B56.out) (fun _ => ?_)
                  try simp only [Act.put, List.setIfInBounds_toArray, List.set_cons_zero, List.set_cons_succ]
                  clear hK K
                  refine wpAnyH_ready (rs := [15]) (by kernel_rfl) (by simp) ?_
                  refine AllReadyH.cons rfl (fun K hK => ?_) AllReadyH.nil
                  · rw [if_pos (by rfl)]
                    refine wp_st (.tmp 11) (.tmp 53) rfl rfl g56 zeros zeros A56.out (by simp [zeros]) (by simp [zeros]) rfl rfl ?_
                    intro U57 hd57 hc57
                    have B57 := Lib.hid (Chg.below B56.out B56.out.size (by omega) hc57)
                    clear hc57 hd57
                    refine hK.out _ _ (range_below hR8 B57.out) (fun _ => ?_)
                    try simp only [Act.put, List.setIfInBounds_toArray, List.set_cons_zero, List.set_cons_succ]
                    clear hK K
                    refine take_at (i := 16) (k := 12) (v := .int .i64 1) rfl rfl (by kernel_rfl) (by kernel_rfl) (by kernel_rfl) (fun _ _ _ h => h) (Or.inl ⟨by rfl, fun w _ => rfl⟩) (range_below hR8 B57.out) ?_
                    try simp only [Act.put, List.setIfInBounds_toArray, List.set_cons_zero, List.set_cons_succ]
                    refine wpAnyH_done (by kernel_rfl) ?_ _
                    have BF := B57
                    have hg9 := hd8.out.below BF.out
                    have hg4 := hT8.out.below BF.out
                    have HG9 := Lib.hid hg9
                    have HG4 := Lib.hid hg4
                    clear hg9 hg4 hR8
                    go_wp2_with (first
                      | (refine dg_load_g rfl (.tmp 9) rfl g9 (T l) HG9.out (T_len _) rfl ?_)
                      | (refine dg_load_g rfl (.tmp 4) rfl g (T l) HG4.out (T_len _) rfl ?_))
                    go_roundw
                    case rel => exact ⟨k + 1, by omega, by go_num, Lib.hid (hW8.out.trans (BF.out.mono hW8.out.size))⟩
                    case measure => simp [intOf]; omega
              · rw [if_pos (by rfl)]
                refine wp_al rfl rfl ?_
                intro U58 g58 hbe58 hge58 hlt58 A58
                have B58 := Lib.hid (B54.out.trans (hbe58.mono B54.out.size))
                have hz58 := B54.out.size
                have O58 := Lib.hid (OwnN.later O54.out hbe58)
                have hy58 := hbe58.size
                have ob58 : ∀ j, (v54 : Value).ownBlock = some j → w8.heap.size ≤ j ∧ g58 ≠ j := fun j e => by
                  have h0 := ob54 j e
                  have h1 := OwnN.lt O54.out e
                  exact ⟨h0, by omega⟩
                clear hbe58
                refine hK.out _ _ (range_below hR8 B58.out) (fun _ => ?_)
                try simp only [Act.put, List.setIfInBounds_toArray, List.set_cons_zero, List.set_cons_succ]
                clear hK K
                refine wpAnyH_ready (rs := [10]) (by kernel_rfl) (by simp) ?_
                refine AllReadyH.cons rfl (fun K hK => ?_) AllReadyH.nil
                · rw [if_pos (by rfl)]
                  obtain ⟨q59, m59, c59, e59, i59⟩ : ∃ q m c, v54 = .slice q m c ∧ m = ((([] : List (List UInt8)) ++ (PA l k)) ++ [d]).length := by
                    rcases O58.out with ⟨e1, e2, _⟩ | ⟨gg, cc, e1, _⟩
                    · exact ⟨_, _, _, e1, e2.symm⟩
                    · exact ⟨_, _, _, e1, rfl⟩
                  have im59 : m59 ≠ PL k n := by rw [i59]; have := HPL.out; simp; omega
                  rw [e59]
                  clear i59
                  go_simp
                  go_at_call 22
                  refine (climb_len d k n q59 m59 c59 U58 (by omega) (by omega) hlt im59).mono ?_
                  rintro e U59 ⟨rfl, hbe59⟩
                  have B59 := Lib.hid (B58.out.trans (hbe59.mono B58.out.size))
                  have hz59 := B58.out.size
                  have A59 := Lib.hid (A58.out.below hbe59)
                  clear hbe59
                  refine hK.out _ _ (range_below hR8 B59.out) (fun _ => ?_)
                  try simp only [Act.put, List.setIfInBounds_toArray, List.set_cons_zero, List.set_cons_succ]
                  refine take_at (i := 11) (k := 41) (v := .tuple #[dgv zeros, .int .i64 1]) rfl rfl (by kernel_rfl) (by kernel_rfl) (by kernel_rfl) (fun _ _ _ h => h) (Or.inl ⟨by rfl, fun w _ => rfl⟩) (range_below hR8 B59.out) ?_
                  try simp only [Act.put, List.setIfInBounds_toArray, List.set_cons_zero, List.set_cons_succ]
                  refine take_at (i := 12) (k := 53) (v := dgv zeros) rfl rfl (by kernel_rfl) (by kernel_rfl) (by kernel_rfl) (fun _ _ _ h => h) (Or.inl ⟨by rfl, fun w _ => rfl⟩) (range_below hR8 B59.out) ?_
                  try simp only [Act.put, List.setIfInBounds_toArray, List.set_cons_zero, List.set_cons_succ]
                  refine take_at (i := 13) (k := 54) (v := .int .i64 1) rfl rfl (by kernel_rfl) (by kernel_rfl) (by kernel_rfl) (fun _ _ _ h => h) (Or.inl ⟨by rfl, fun w _ => rfl⟩) (range_below hR8 B59.out) ?_
                  try simp only [Act.put, List.setIfInBounds_toArray, List.set_cons_zero, List.set_cons_succ]
                  try simp only [Act.put, List.setIfInBounds_toArray, List.set_cons_zero, List.set_cons_succ]
                  clear hK K
                  refine wpAnyH_ready (rs := [15]) (by kernel_rfl) (by simp) ?_
                  refine AllReadyH.cons rfl (fun K hK => ?_) AllReadyH.nil
                  · rw [if_pos (by rfl)]
                    refine wp_st (.tmp 11) (.tmp 53) rfl rfl g58 zeros zeros A59.out (by simp [zeros]) (by simp [zeros]) rfl rfl ?_
                    intro U60 hd60 hc60
                    have B60 := Lib.hid (Chg.below B59.out B59.out.size (by omega) hc60)
                    clear hc60 hd60
                    refine hK.out _ _ (range_below hR8 B60.out) (fun _ => ?_)
                    try simp only [Act.put, List.setIfInBounds_toArray, List.set_cons_zero, List.set_cons_succ]
                    clear hK K
                    refine take_at (i := 16) (k := 12) (v := .int .i64 1) rfl rfl (by kernel_rfl) (by kernel_rfl) (by kernel_rfl) (fun _ _ _ h => h) (Or.inl ⟨by rfl, fun w _ => rfl⟩) (range_below hR8 B60.out) ?_
                    try simp only [Act.put, List.setIfInBounds_toArray, List.set_cons_zero, List.set_cons_succ]
                    refine wpAnyH_done (by kernel_rfl) ?_ _
                    have BF := B60
                    have hg9 := hd8.out.below BF.out
                    have hg4 := hT8.out.below BF.out
                    have HG9 := Lib.hid hg9
                    have HG4 := Lib.hid hg4
                    clear hg9 hg4 hR8
                    go_wp2_with (first
                      | (refine dg_load_g rfl (.tmp 9) rfl g9 (T l) HG9.out (T_len _) rfl ?_)
                      | (refine dg_load_g rfl (.tmp 4) rfl g (T l) HG4.out (T_len _) rfl ?_))
                    go_roundw
                    case rel => exact ⟨k + 1, by omega, by go_num, Lib.hid (hW8.out.trans (BF.out.mono hW8.out.size))⟩
                    case measure => simp [intOf]; omega
            · rw [if_pos (by rfl)]
              refine wp_al rfl rfl ?_
              intro U61 g61 hbe61 hge61 hlt61 A61
              have B61 := Lib.hid (B53.out.trans (hbe61.mono B53.out.size))
              have hz61 := B53.out.size
              have O61 := Lib.hid (OwnN.later O53.out hbe61)
              have L61 := Lib.hid (L53.out.below hbe61)
              have hy61 := hbe61.size
              have ob61 : ∀ j, (v53 : Value).ownBlock = some j → w8.heap.size ≤ j ∧ g51 ≠ j ∧ g61 ≠ j := fun j e => by
                have h0 := ob53 j e
                have h1 := OwnN.lt O53.out e
                exact ⟨h0.1, h0.2, by omega⟩
              clear hbe61
              refine hK.out _ _ (range_below hR8 B61.out) (fun _ => ?_)
              try simp only [Act.put, List.setIfInBounds_toArray, List.set_cons_zero, List.set_cons_succ]
              clear hK K
              refine wpAnyH_ready (rs := [9]) (by kernel_rfl) (by simp) ?_
              refine AllReadyH.cons rfl (fun K hK => ?_) AllReadyH.nil
              · rw [if_pos (by rfl)]
                refine wp_ap rfl (.tmp 48) (.tmp 50) rfl (v53) (.slice (some ⟨g51, 0, none⟩) 1 1) (([] : List (List UInt8)) ++ (PA l k)) [d] rfl O61.out rfl L61.out hd32s.out (by simp; omega) ?_
                intro v62 U62 O62 hg62 hv62
                have B62 := Lib.hid (grown_below B61.out B61.out.size hg62 (fun j e => (ob61 j e).1))
                have hz62 := B61.out.size
                have hy62 := hg62.size
                have A62 := Lib.hid (keep_grown A61.out hg62 (fun j e => (ob61 j e).2.2))
                have ob62 : ∀ j, v62.ownBlock = some j → w8.heap.size ≤ j ∧ g61 ≠ j := fun j e => by
                  rcases hv62 with h | ⟨j', h, h'⟩
                  · rw [h] at e
                    have h0 := ob61 j e
                    exact ⟨h0.1, h0.2.2⟩
                  · rw [h] at e
                    have e' : j' = j := Option.some.inj e
                    subst e'
                    exact ⟨by omega, by omega⟩
                clear hg62 hv62
                refine hK.out _ _ (range_below hR8 B62.out) (fun _ => ?_)
                try simp only [Act.put, List.setIfInBounds_toArray, List.set_cons_zero, List.set_cons_succ]
                clear hK K
                refine wpAnyH_ready (rs := [10]) (by kernel_rfl) (by simp) ?_
                refine AllReadyH.cons rfl (fun K hK => ?_) AllReadyH.nil
                · rw [if_pos (by rfl)]
                  obtain ⟨q63, m63, c63, e63, i63⟩ : ∃ q m c, v62 = .slice q m c ∧ m = ((([] : List (List UInt8)) ++ (PA l k)) ++ [d]).length := by
                    rcases O62.out with ⟨e1, e2, _⟩ | ⟨gg, cc, e1, _⟩
                    · exact ⟨_, _, _, e1, e2.symm⟩
                    · exact ⟨_, _, _, e1, rfl⟩
                  have im63 : m63 ≠ PL k n := by rw [i63]; have := HPL.out; simp; omega
                  rw [e63]
                  clear i63
                  go_simp
                  go_at_call 22
                  refine (climb_len d k n q63 m63 c63 U62 (by omega) (by omega) hlt im63).mono ?_
                  rintro e U63 ⟨rfl, hbe63⟩
                  have B63 := Lib.hid (B62.out.trans (hbe63.mono B62.out.size))
                  have hz63 := B62.out.size
                  have A63 := Lib.hid (A62.out.below hbe63)
                  clear hbe63
                  refine hK.out _ _ (range_below hR8 B63.out) (fun _ => ?_)
                  try simp only [Act.put, List.setIfInBounds_toArray, List.set_cons_zero, List.set_cons_succ]
                  refine take_at (i := 11) (k := 41) (v := .tuple #[dgv zeros, .int .i64 1]) rfl rfl (by kernel_rfl) (by kernel_rfl) (by kernel_rfl) (fun _ _ _ h => h) (Or.inl ⟨by rfl, fun w _ => rfl⟩) (range_below hR8 B63.out) ?_
                  try simp only [Act.put, List.setIfInBounds_toArray, List.set_cons_zero, List.set_cons_succ]
                  refine take_at (i := 12) (k := 53) (v := dgv zeros) rfl rfl (by kernel_rfl) (by kernel_rfl) (by kernel_rfl) (fun _ _ _ h => h) (Or.inl ⟨by rfl, fun w _ => rfl⟩) (range_below hR8 B63.out) ?_
                  try simp only [Act.put, List.setIfInBounds_toArray, List.set_cons_zero, List.set_cons_succ]
                  refine take_at (i := 13) (k := 54) (v := .int .i64 1) rfl rfl (by kernel_rfl) (by kernel_rfl) (by kernel_rfl) (fun _ _ _ h => h) (Or.inl ⟨by rfl, fun w _ => rfl⟩) (range_below hR8 B63.out) ?_
                  try simp only [Act.put, List.setIfInBounds_toArray, List.set_cons_zero, List.set_cons_succ]
                  try simp only [Act.put, List.setIfInBounds_toArray, List.set_cons_zero, List.set_cons_succ]
                  clear hK K
                  refine wpAnyH_ready (rs := [15]) (by kernel_rfl) (by simp) ?_
                  refine AllReadyH.cons rfl (fun K hK => ?_) AllReadyH.nil
                  · rw [if_pos (by rfl)]
                    refine wp_st (.tmp 11) (.tmp 53) rfl rfl g61 zeros zeros A63.out (by simp [zeros]) (by simp [zeros]) rfl rfl ?_
                    intro U64 hd64 hc64
                    have B64 := Lib.hid (Chg.below B63.out B63.out.size (by omega) hc64)
                    clear hc64 hd64
                    refine hK.out _ _ (range_below hR8 B64.out) (fun _ => ?_)
                    try simp only [Act.put, List.setIfInBounds_toArray, List.set_cons_zero, List.set_cons_succ]
                    clear hK K
                    refine take_at (i := 16) (k := 12) (v := .int .i64 1) rfl rfl (by kernel_rfl) (by kernel_rfl) (by kernel_rfl) (fun _ _ _ h => h) (Or.inl ⟨by rfl, fun w _ => rfl⟩) (range_below hR8 B64.out) ?_
                    try simp only [Act.put, List.setIfInBounds_toArray, List.set_cons_zero, List.set_cons_succ]
                    refine wpAnyH_done (by kernel_rfl) ?_ _
                    have BF := B64
                    have hg9 := hd8.out.below BF.out
                    have hg4 := hT8.out.below BF.out
                    have HG9 := Lib.hid hg9
                    have HG4 := Lib.hid hg4
                    clear hg9 hg4 hR8
                    go_wp2_with (first
                      | (refine dg_load_g rfl (.tmp 9) rfl g9 (T l) HG9.out (T_len _) rfl ?_)
                      | (refine dg_load_g rfl (.tmp 4) rfl g (T l) HG4.out (T_len _) rfl ?_))
                    go_roundw
                    case rel => exact ⟨k + 1, by omega, by go_num, Lib.hid (hW8.out.trans (BF.out.mono hW8.out.size))⟩
                    case measure => simp [intOf]; omega
          · rw [if_pos (by rfl)]
            refine wp_al rfl rfl ?_
            intro U65 g65 hbe65 hge65 hlt65 A65
            have B65 := Lib.hid (B52.out.trans (hbe65.mono B52.out.size))
            have hz65 := B52.out.size
            have O65 := Lib.hid (OwnN.later O52.out hbe65)
            have L65 := Lib.hid (L52.out.below hbe65)
            have hy65 := hbe65.size
            have ob65 : ∀ j, (.slice (some ⟨g52, 0, none⟩) 0 0 : Value).ownBlock = some j → w8.heap.size ≤ j ∧ g51 ≠ j ∧ g65 ≠ j := fun j e => by
              have h0 := ob52 j e
              have h1 := OwnN.lt O52.out e
              exact ⟨h0.1, h0.2, by omega⟩
            clear hbe65
            refine hK.out _ _ (range_below hR8 B65.out) (fun _ => ?_)
            try simp only [Act.put, List.setIfInBounds_toArray, List.set_cons_zero, List.set_cons_succ]
            clear hK K
            refine wpAnyH_ready (rs := [6]) (by kernel_rfl) (by simp) ?_
            refine AllReadyH.cons rfl (fun K hK => ?_) AllReadyH.nil
            · rw [if_pos (by rfl)]
              refine wp_ap rfl (.tmp 46) (.tmp 47) rfl (.slice (some ⟨g52, 0, none⟩) 0 0) (.slice pp (PA l k).length pc) ([] : List (List UInt8)) (PA l k) rfl O65.out rfl (hP8.out.below B65.out) HP32.out (by simp; omega) ?_
              intro v66 U66 O66 hg66 hv66
              have B66 := Lib.hid (grown_below B65.out B65.out.size hg66 (fun j e => (ob65 j e).1))
              have hz66 := B65.out.size
              have hy66 := hg66.size
              have A66 := Lib.hid (keep_grown A65.out hg66 (fun j e => (ob65 j e).2.2))
              have L66 := Lib.hid (ld_grown L65.out hg66 (fun j e => (ob65 j e).2.1))
              have ob66 : ∀ j, v66.ownBlock = some j → w8.heap.size ≤ j ∧ g51 ≠ j ∧ g65 ≠ j := fun j e => by
                rcases hv66 with h | ⟨j', h, h'⟩
                · rw [h] at e
                  have h0 := ob65 j e
                  exact ⟨h0.1, h0.2.1, h0.2.2⟩
                · rw [h] at e
                  have e' : j' = j := Option.some.inj e
                  subst e'
                  exact ⟨by omega, by omega, by omega⟩
              clear hg66 hv66
              refine hK.out _ _ (range_below hR8 B66.out) (fun _ => ?_)
              try simp only [Act.put, List.setIfInBounds_toArray, List.set_cons_zero, List.set_cons_succ]
              clear hK K
              refine wpAnyH_ready (rs := [9]) (by kernel_rfl) (by simp) ?_
              refine AllReadyH.cons rfl (fun K hK => ?_) AllReadyH.nil
              · rw [if_pos (by rfl)]
                refine wp_ap rfl (.tmp 48) (.tmp 50) rfl (v66) (.slice (some ⟨g51, 0, none⟩) 1 1) (([] : List (List UInt8)) ++ (PA l k)) [d] rfl O66.out rfl L66.out hd32s.out (by simp; omega) ?_
                intro v67 U67 O67 hg67 hv67
                have B67 := Lib.hid (grown_below B66.out B66.out.size hg67 (fun j e => (ob66 j e).1))
                have hz67 := B66.out.size
                have hy67 := hg67.size
                have A67 := Lib.hid (keep_grown A66.out hg67 (fun j e => (ob66 j e).2.2))
                have ob67 : ∀ j, v67.ownBlock = some j → w8.heap.size ≤ j ∧ g65 ≠ j := fun j e => by
                  rcases hv67 with h | ⟨j', h, h'⟩
                  · rw [h] at e
                    have h0 := ob66 j e
                    exact ⟨h0.1, h0.2.2⟩
                  · rw [h] at e
                    have e' : j' = j := Option.some.inj e
                    subst e'
                    exact ⟨by omega, by omega⟩
                clear hg67 hv67
                refine hK.out _ _ (range_below hR8 B67.out) (fun _ => ?_)
                try simp only [Act.put, List.setIfInBounds_toArray, List.set_cons_zero, List.set_cons_succ]
                clear hK K
                refine wpAnyH_ready (rs := [10]) (by kernel_rfl) (by simp) ?_
                refine AllReadyH.cons rfl (fun K hK => ?_) AllReadyH.nil
                · rw [if_pos (by rfl)]
                  obtain ⟨q68, m68, c68, e68, i68⟩ : ∃ q m c, v67 = .slice q m c ∧ m = ((([] : List (List UInt8)) ++ (PA l k)) ++ [d]).length := by
                    rcases O67.out with ⟨e1, e2, _⟩ | ⟨gg, cc, e1, _⟩
                    · exact ⟨_, _, _, e1, e2.symm⟩
                    · exact ⟨_, _, _, e1, rfl⟩
                  have im68 : m68 ≠ PL k n := by rw [i68]; have := HPL.out; simp; omega
                  rw [e68]
                  clear i68
                  go_simp
                  go_at_call 22
                  refine (climb_len d k n q68 m68 c68 U67 (by omega) (by omega) hlt im68).mono ?_
                  rintro e U68 ⟨rfl, hbe68⟩
                  have B68 := Lib.hid (B67.out.trans (hbe68.mono B67.out.size))
                  have hz68 := B67.out.size
                  have A68 := Lib.hid (A67.out.below hbe68)
                  clear hbe68
                  refine hK.out _ _ (range_below hR8 B68.out) (fun _ => ?_)
                  try simp only [Act.put, List.setIfInBounds_toArray, List.set_cons_zero, List.set_cons_succ]
                  refine take_at (i := 11) (k := 41) (v := .tuple #[dgv zeros, .int .i64 1]) rfl rfl (by kernel_rfl) (by kernel_rfl) (by kernel_rfl) (fun _ _ _ h => h) (Or.inl ⟨by rfl, fun w _ => rfl⟩) (range_below hR8 B68.out) ?_
                  try simp only [Act.put, List.setIfInBounds_toArray, List.set_cons_zero, List.set_cons_succ]
                  refine take_at (i := 12) (k := 53) (v := dgv zeros) rfl rfl (by kernel_rfl) (by kernel_rfl) (by kernel_rfl) (fun _ _ _ h => h) (Or.inl ⟨by rfl, fun w _ => rfl⟩) (range_below hR8 B68.out) ?_
                  try simp only [Act.put, List.setIfInBounds_toArray, List.set_cons_zero, List.set_cons_succ]
                  refine take_at (i := 13) (k := 54) (v := .int .i64 1) rfl rfl (by kernel_rfl) (by kernel_rfl) (by kernel_rfl) (fun _ _ _ h => h) (Or.inl ⟨by rfl, fun w _ => rfl⟩) (range_below hR8 B68.out) ?_
                  try simp only [Act.put, List.setIfInBounds_toArray, List.set_cons_zero, List.set_cons_succ]
                  try simp only [Act.put, List.setIfInBounds_toArray, List.set_cons_zero, List.set_cons_succ]
                  clear hK K
                  refine wpAnyH_ready (rs := [15]) (by kernel_rfl) (by simp) ?_
                  refine AllReadyH.cons rfl (fun K hK => ?_) AllReadyH.nil
                  · rw [if_pos (by rfl)]
                    refine wp_st (.tmp 11) (.tmp 53) rfl rfl g65 zeros zeros A68.out (by simp [zeros]) (by simp [zeros]) rfl rfl ?_
                    intro U69 hd69 hc69
                    have B69 := Lib.hid (Chg.below B68.out B68.out.size (by omega) hc69)
                    clear hc69 hd69
                    refine hK.out _ _ (range_below hR8 B69.out) (fun _ => ?_)
                    try simp only [Act.put, List.setIfInBounds_toArray, List.set_cons_zero, List.set_cons_succ]
                    clear hK K
                    refine take_at (i := 16) (k := 12) (v := .int .i64 1) rfl rfl (by kernel_rfl) (by kernel_rfl) (by kernel_rfl) (fun _ _ _ h => h) (Or.inl ⟨by rfl, fun w _ => rfl⟩) (range_below hR8 B69.out) ?_
                    try simp only [Act.put, List.setIfInBounds_toArray, List.set_cons_zero, List.set_cons_succ]
                    refine wpAnyH_done (by kernel_rfl) ?_ _
                    have BF := B69
                    have hg9 := hd8.out.below BF.out
                    have hg4 := hT8.out.below BF.out
                    have HG9 := Lib.hid hg9
                    have HG4 := Lib.hid hg4
                    clear hg9 hg4 hR8
                    go_wp2_with (first
                      | (refine dg_load_g rfl (.tmp 9) rfl g9 (T l) HG9.out (T_len _) rfl ?_)
                      | (refine dg_load_g rfl (.tmp 4) rfl g (T l) HG4.out (T_len _) rfl ?_))
                    go_roundw
                    case rel => exact ⟨k + 1, by omega, by go_num, Lib.hid (hW8.out.trans (BF.out.mono hW8.out.size))⟩
                    case measure => simp [intOf]; omega
        · rw [if_pos (by rfl)]
          refine wp_al rfl rfl ?_
          intro U70 g70 hbe70 hge70 hlt70 A70
          have B70 := Lib.hid (B51.out.trans (hbe70.mono B51.out.size))
          have hz70 := B51.out.size
          have L70 := Lib.hid (L51.out.below hbe70)
          have hy70 := hbe70.size
          clear hbe70
          refine hK.out _ _ (range_below hR8 B70.out) (fun _ => ?_)
          try simp only [Act.put, List.setIfInBounds_toArray, List.set_cons_zero, List.set_cons_succ]
          clear hK K
          refine wpAnyH_ready (rs := [4]) (by kernel_rfl) (by simp) ?_
          refine AllReadyH.cons rfl (fun K hK => ?_) AllReadyH.nil
          · rw [if_pos (by rfl)]
            refine wp_b0 rfl rfl ?_
            intro U71 g71 hbe71 hge71 hlt71 O71
            have B71 := Lib.hid (B70.out.trans (hbe71.mono B70.out.size))
            have hz71 := B70.out.size
            have L71 := Lib.hid (L70.out.below hbe71)
            have A71 := Lib.hid (A70.out.below hbe71)
            have hy71 := hbe71.size
            have ob71 : ∀ j, (Value.slice (some ⟨g71, 0, none⟩) 0 0).ownBlock = some j → w8.heap.size ≤ j ∧ g51 ≠ j ∧ g70 ≠ j := fun j e => by
              have e' : g71 = j := Option.some.inj e
              subst e'
              exact ⟨by omega, by omega, by omega⟩
            clear hbe71
            refine hK.out _ _ (range_below hR8 B71.out) (fun _ => ?_)
            try simp only [Act.put, List.setIfInBounds_toArray, List.set_cons_zero, List.set_cons_succ]
            clear hK K
            refine wpAnyH_ready (rs := [6]) (by kernel_rfl) (by simp) ?_
            refine AllReadyH.cons rfl (fun K hK => ?_) AllReadyH.nil
            · rw [if_pos (by rfl)]
              refine wp_ap rfl (.tmp 46) (.tmp 47) rfl (.slice (some ⟨g71, 0, none⟩) 0 0) (.slice pp (PA l k).length pc) ([] : List (List UInt8)) (PA l k) rfl O71.out rfl (hP8.out.below B71.out) HP32.out (by simp; omega) ?_
              intro v72 U72 O72 hg72 hv72
              have B72 := Lib.hid (grown_below B71.out B71.out.size hg72 (fun j e => (ob71 j e).1))
              have hz72 := B71.out.size
              have hy72 := hg72.size
              have A72 := Lib.hid (keep_grown A71.out hg72 (fun j e => (ob71 j e).2.2))
              have L72 := Lib.hid (ld_grown L71.out hg72 (fun j e => (ob71 j e).2.1))
              have ob72 : ∀ j, v72.ownBlock = some j → w8.heap.size ≤ j ∧ g51 ≠ j ∧ g70 ≠ j := fun j e => by
                rcases hv72 with h | ⟨j', h, h'⟩
                · rw [h] at e
                  have h0 := ob71 j e
                  exact ⟨h0.1, h0.2.1, h0.2.2⟩
                · rw [h] at e
                  have e' : j' = j := Option.some.inj e
                  subst e'
                  exact ⟨by omega, by omega, by omega⟩
              clear hg72 hv72
              refine hK.out _ _ (range_below hR8 B72.out) (fun _ => ?_)
              try simp only [Act.put, List.setIfInBounds_toArray, List.set_cons_zero, List.set_cons_succ]
              clear hK K
              refine wpAnyH_ready (rs := [9]) (by kernel_rfl) (by simp) ?_
              refine AllReadyH.cons rfl (fun K hK => ?_) AllReadyH.nil
              · rw [if_pos (by rfl)]
                refine wp_ap rfl (.tmp 48) (.tmp 50) rfl (v72) (.slice (some ⟨g51, 0, none⟩) 1 1) (([] : List (List UInt8)) ++ (PA l k)) [d] rfl O72.out rfl L72.out hd32s.out (by simp; omega) ?_
                intro v73 U73 O73 hg73 hv73
                have B73 := Lib.hid (grown_below B72.out B72.out.size hg73 (fun j e => (ob72 j e).1))
                have hz73 := B72.out.size
                have hy73 := hg73.size
                have A73 := Lib.hid (keep_grown A72.out hg73 (fun j e => (ob72 j e).2.2))
                have ob73 : ∀ j, v73.ownBlock = some j → w8.heap.size ≤ j ∧ g70 ≠ j := fun j e => by
                  rcases hv73 with h | ⟨j', h, h'⟩
                  · rw [h] at e
                    have h0 := ob72 j e
                    exact ⟨h0.1, h0.2.2⟩
                  · rw [h] at e
                    have e' : j' = j := Option.some.inj e
                    subst e'
                    exact ⟨by omega, by omega⟩
                clear hg73 hv73
                refine hK.out _ _ (range_below hR8 B73.out) (fun _ => ?_)
                try simp only [Act.put, List.setIfInBounds_toArray, List.set_cons_zero, List.set_cons_succ]
                clear hK K
                refine wpAnyH_ready (rs := [10]) (by kernel_rfl) (by simp) ?_
                refine AllReadyH.cons rfl (fun K hK => ?_) AllReadyH.nil
                · rw [if_pos (by rfl)]
                  obtain ⟨q74, m74, c74, e74, i74⟩ : ∃ q m c, v73 = .slice q m c ∧ m = ((([] : List (List UInt8)) ++ (PA l k)) ++ [d]).length := by
                    rcases O73.out with ⟨e1, e2, _⟩ | ⟨gg, cc, e1, _⟩
                    · exact ⟨_, _, _, e1, e2.symm⟩
                    · exact ⟨_, _, _, e1, rfl⟩
                  have im74 : m74 ≠ PL k n := by rw [i74]; have := HPL.out; simp; omega
                  rw [e74]
                  clear i74
                  go_simp
                  go_at_call 22
                  refine (climb_len d k n q74 m74 c74 U73 (by omega) (by omega) hlt im74).mono ?_
                  rintro e U74 ⟨rfl, hbe74⟩
                  have B74 := Lib.hid (B73.out.trans (hbe74.mono B73.out.size))
                  have hz74 := B73.out.size
                  have A74 := Lib.hid (A73.out.below hbe74)
                  clear hbe74
                  refine hK.out _ _ (range_below hR8 B74.out) (fun _ => ?_)
                  try simp only [Act.put, List.setIfInBounds_toArray, List.set_cons_zero, List.set_cons_succ]
                  refine take_at (i := 11) (k := 41) (v := .tuple #[dgv zeros, .int .i64 1]) rfl rfl (by kernel_rfl) (by kernel_rfl) (by kernel_rfl) (fun _ _ _ h => h) (Or.inl ⟨by rfl, fun w _ => rfl⟩) (range_below hR8 B74.out) ?_
                  try simp only [Act.put, List.setIfInBounds_toArray, List.set_cons_zero, List.set_cons_succ]
                  refine take_at (i := 12) (k := 53) (v := dgv zeros) rfl rfl (by kernel_rfl) (by kernel_rfl) (by kernel_rfl) (fun _ _ _ h => h) (Or.inl ⟨by rfl, fun w _ => rfl⟩) (range_below hR8 B74.out) ?_
                  try simp only [Act.put, List.setIfInBounds_toArray, List.set_cons_zero, List.set_cons_succ]
                  refine take_at (i := 13) (k := 54) (v := .int .i64 1) rfl rfl (by kernel_rfl) (by kernel_rfl) (by kernel_rfl) (fun _ _ _ h => h) (Or.inl ⟨by rfl, fun w _ => rfl⟩) (range_below hR8 B74.out) ?_
                  try simp only [Act.put, List.setIfInBounds_toArray, List.set_cons_zero, List.set_cons_succ]
                  try simp only [Act.put, List.setIfInBounds_toArray, List.set_cons_zero, List.set_cons_succ]
                  clear hK K
                  refine wpAnyH_ready (rs := [15]) (by kernel_rfl) (by simp) ?_
                  refine AllReadyH.cons rfl (fun K hK => ?_) AllReadyH.nil
                  · rw [if_pos (by rfl)]
                    refine wp_st (.tmp 11) (.tmp 53) rfl rfl g70 zeros zeros A74.out (by simp [zeros]) (by simp [zeros]) rfl rfl ?_
                    intro U75 hd75 hc75
                    have B75 := Lib.hid (Chg.below B74.out B74.out.size (by omega) hc75)
                    clear hc75 hd75
                    refine hK.out _ _ (range_below hR8 B75.out) (fun _ => ?_)
                    try simp only [Act.put, List.setIfInBounds_toArray, List.set_cons_zero, List.set_cons_succ]
                    clear hK K
                    refine take_at (i := 16) (k := 12) (v := .int .i64 1) rfl rfl (by kernel_rfl) (by kernel_rfl) (by kernel_rfl) (fun _ _ _ h => h) (Or.inl ⟨by rfl, fun w _ => rfl⟩) (range_below hR8 B75.out) ?_
                    try simp only [Act.put, List.setIfInBounds_toArray, List.set_cons_zero, List.set_cons_succ]
                    refine wpAnyH_done (by kernel_rfl) ?_ _
                    have BF := B75
                    have hg9 := hd8.out.below BF.out
                    have hg4 := hT8.out.below BF.out
                    have HG9 := Lib.hid hg9
                    have HG4 := Lib.hid hg4
                    clear hg9 hg4 hR8
                    go_wp2_with (first
                      | (refine dg_load_g rfl (.tmp 9) rfl g9 (T l) HG9.out (T_len _) rfl ?_)
                      | (refine dg_load_g rfl (.tmp 4) rfl g (T l) HG4.out (T_len _) rfl ?_))
                    go_roundw
                    case rel => exact ⟨k + 1, by omega, by go_num, Lib.hid (hW8.out.trans (BF.out.mono hW8.out.size))⟩
                    case measure => simp [intOf]; omega
      · rw [if_pos (by rfl)]
        refine wp_al rfl rfl ?_
        intro U76 g76 hbe76 hge76 hlt76 A76
        have B76 := Lib.hid (B2.out.trans (hbe76.mono B2.out.size))
        have hz76 := B2.out.size
        have hy76 := hbe76.size
        clear hbe76
        refine hK.out _ _ (range_below hR8 B76.out) (fun _ => ?_)
        try simp only [Act.put, List.setIfInBounds_toArray, List.set_cons_zero, List.set_cons_succ]
        clear hK K
        refine wpAnyH_ready (rs := [4, 8]) (by kernel_rfl) (by simp) ?_
        refine AllReadyH.cons rfl (fun K hK => ?_) (AllReadyH.cons rfl (fun K hK => ?_) AllReadyH.nil)
        · rw [if_pos (by rfl)]
          refine wp_b0 rfl rfl ?_
          intro U77 g77 hbe77 hge77 hlt77 O77
          have B77 := Lib.hid (B76.out.trans (hbe77.mono B76.out.size))
          have hz77 := B76.out.size
          have A77 := Lib.hid (A76.out.below hbe77)
          have hy77 := hbe77.size
          have ob77 : ∀ j, (Value.slice (some ⟨g77, 0, none⟩) 0 0).ownBlock = some j → w8.heap.size ≤ j ∧ g76 ≠ j := fun j e => by
            have e' : g77 = j := Option.some.inj e
            subst e'
            exact ⟨by omega, by omega⟩
          clear hbe77
          refine hK.out _ _ (range_below hR8 B77.out) (fun _ => ?_)
          try simp only [Act.put, List.setIfInBounds_toArray, List.set_cons_zero, List.set_cons_succ]
          clear hK K
          refine wpAnyH_ready (rs := [6, 8]) (by kernel_rfl) (by simp) ?_
          refine AllReadyH.cons rfl (fun K hK => ?_) (AllReadyH.cons rfl (fun K hK => ?_) AllReadyH.nil)
          · rw [if_pos (by rfl)]
            refine wp_ap rfl (.tmp 46) (.tmp 47) rfl (.slice (some ⟨g77, 0, none⟩) 0 0) (.slice pp (PA l k).length pc) ([] : List (List UInt8)) (PA l k) rfl O77.out rfl (hP8.out.below B77.out) HP32.out (by simp; omega) ?_
            intro v78 U78 O78 hg78 hv78
            have B78 := Lib.hid (grown_below B77.out B77.out.size hg78 (fun j e => (ob77 j e).1))
            have hz78 := B77.out.size
            have hy78 := hg78.size
            have A78 := Lib.hid (keep_grown A77.out hg78 (fun j e => (ob77 j e).2))
            have ob78 : ∀ j, v78.ownBlock = some j → w8.heap.size ≤ j ∧ g76 ≠ j := fun j e => by
              rcases hv78 with h | ⟨j', h, h'⟩
              · rw [h] at e
                have h0 := ob77 j e
                exact ⟨h0.1, h0.2⟩
              · rw [h] at e
                have e' : j' = j := Option.some.inj e
                subst e'
                exact ⟨by omega, by omega⟩
            clear hg78 hv78
            refine hK.out _ _ (range_below hR8 B78.out) (fun _ => ?_)
            try simp only [Act.put, List.setIfInBounds_toArray, List.set_cons_zero, List.set_cons_succ]
            clear hK K
            refine wpAnyH_ready (rs := [8]) (by kernel_rfl) (by simp) ?_
            refine AllReadyH.cons rfl (fun K hK => ?_) AllReadyH.nil
            · rw [if_pos (by rfl)]
              refine wp_b1 rfl 49 rfl d rfl HD32.out ?_
              intro U79 g79 hbe79 hge79 hlt79 L79
              have B79 := Lib.hid (B78.out.trans (hbe79.mono B78.out.size))
              have hz79 := B78.out.size
              have O79 := Lib.hid (OwnN.later O78.out hbe79)
              have A79 := Lib.hid (A78.out.below hbe79)
              have hy79 := hbe79.size
              have ob79 : ∀ j, (v78 : Value).ownBlock = some j → w8.heap.size ≤ j ∧ g79 ≠ j ∧ g76 ≠ j := fun j e => by
                have h0 := ob78 j e
                have h1 := OwnN.lt O78.out e
                exact ⟨h0.1, by omega, h0.2⟩
              clear hbe79
              refine hK.out _ _ (range_below hR8 B79.out) (fun _ => ?_)
              try simp only [Act.put, List.setIfInBounds_toArray, List.set_cons_zero, List.set_cons_succ]
              clear hK K
              refine wpAnyH_ready (rs := [9]) (by kernel_rfl) (by simp) ?_
              refine AllReadyH.cons rfl (fun K hK => ?_) AllReadyH.nil
              · rw [if_pos (by rfl)]
                refine wp_ap rfl (.tmp 48) (.tmp 50) rfl (v78) (.slice (some ⟨g79, 0, none⟩) 1 1) (([] : List (List UInt8)) ++ (PA l k)) [d] rfl O79.out rfl L79.out hd32s.out (by simp; omega) ?_
                intro v80 U80 O80 hg80 hv80
                have B80 := Lib.hid (grown_below B79.out B79.out.size hg80 (fun j e => (ob79 j e).1))
                have hz80 := B79.out.size
                have hy80 := hg80.size
                have A80 := Lib.hid (keep_grown A79.out hg80 (fun j e => (ob79 j e).2.2))
                have ob80 : ∀ j, v80.ownBlock = some j → w8.heap.size ≤ j ∧ g76 ≠ j := fun j e => by
                  rcases hv80 with h | ⟨j', h, h'⟩
                  · rw [h] at e
                    have h0 := ob79 j e
                    exact ⟨h0.1, h0.2.2⟩
                  · rw [h] at e
                    have e' : j' = j := Option.some.inj e
                    subst e'
                    exact ⟨by omega, by omega⟩
                clear hg80 hv80
                refine hK.out _ _ (range_below hR8 B80.out) (fun _ => ?_)
                try simp only [Act.put, List.setIfInBounds_toArray, List.set_cons_zero, List.set_cons_succ]
                clear hK K
                refine wpAnyH_ready (rs := [10]) (by kernel_rfl) (by simp) ?_
                refine AllReadyH.cons rfl (fun K hK => ?_) AllReadyH.nil
                · rw [if_pos (by rfl)]
                  obtain ⟨q81, m81, c81, e81, i81⟩ : ∃ q m c, v80 = .slice q m c ∧ m = ((([] : List (List UInt8)) ++ (PA l k)) ++ [d]).length := by
                    rcases O80.out with ⟨e1, e2, _⟩ | ⟨gg, cc, e1, _⟩
                    · exact ⟨_, _, _, e1, e2.symm⟩
                    · exact ⟨_, _, _, e1, rfl⟩
                  have im81 : m81 ≠ PL k n := by rw [i81]; have := HPL.out; simp; omega
                  rw [e81]
                  clear i81
                  go_simp
                  go_at_call 22
                  refine (climb_len d k n q81 m81 c81 U80 (by omega) (by omega) hlt im81).mono ?_
                  rintro e U81 ⟨rfl, hbe81⟩
                  have B81 := Lib.hid (B80.out.trans (hbe81.mono B80.out.size))
                  have hz81 := B80.out.size
                  have A81 := Lib.hid (A80.out.below hbe81)
                  clear hbe81
                  refine hK.out _ _ (range_below hR8 B81.out) (fun _ => ?_)
                  try simp only [Act.put, List.setIfInBounds_toArray, List.set_cons_zero, List.set_cons_succ]
                  refine take_at (i := 11) (k := 41) (v := .tuple #[dgv zeros, .int .i64 1]) rfl rfl (by kernel_rfl) (by kernel_rfl) (by kernel_rfl) (fun _ _ _ h => h) (Or.inl ⟨by rfl, fun w _ => rfl⟩) (range_below hR8 B81.out) ?_
                  try simp only [Act.put, List.setIfInBounds_toArray, List.set_cons_zero, List.set_cons_succ]
                  refine take_at (i := 12) (k := 53) (v := dgv zeros) rfl rfl (by kernel_rfl) (by kernel_rfl) (by kernel_rfl) (fun _ _ _ h => h) (Or.inl ⟨by rfl, fun w _ => rfl⟩) (range_below hR8 B81.out) ?_
                  try simp only [Act.put, List.setIfInBounds_toArray, List.set_cons_zero, List.set_cons_succ]
                  refine take_at (i := 13) (k := 54) (v := .int .i64 1) rfl rfl (by kernel_rfl) (by kernel_rfl) (by kernel_rfl) (fun _ _ _ h => h) (Or.inl ⟨by rfl, fun w _ => rfl⟩) (range_below hR8 B81.out) ?_
                  try simp only [Act.put, List.setIfInBounds_toArray, List.set_cons_zero, List.set_cons_succ]
                  try simp only [Act.put, List.setIfInBounds_toArray, List.set_cons_zero, List.set_cons_succ]
                  clear hK K
                  refine wpAnyH_ready (rs := [15]) (by kernel_rfl) (by simp) ?_
                  refine AllReadyH.cons rfl (fun K hK => ?_) AllReadyH.nil
                  · rw [if_pos (by rfl)]
                    refine wp_st (.tmp 11) (.tmp 53) rfl rfl g76 zeros zeros A81.out (by simp [zeros]) (by simp [zeros]) rfl rfl ?_
                    intro U82 hd82 hc82
                    have B82 := Lib.hid (Chg.below B81.out B81.out.size (by omega) hc82)
                    clear hc82 hd82
                    refine hK.out _ _ (range_below hR8 B82.out) (fun _ => ?_)
                    try simp only [Act.put, List.setIfInBounds_toArray, List.set_cons_zero, List.set_cons_succ]
                    clear hK K
                    refine take_at (i := 16) (k := 12) (v := .int .i64 1) rfl rfl (by kernel_rfl) (by kernel_rfl) (by kernel_rfl) (fun _ _ _ h => h) (Or.inl ⟨by rfl, fun w _ => rfl⟩) (range_below hR8 B82.out) ?_
                    try simp only [Act.put, List.setIfInBounds_toArray, List.set_cons_zero, List.set_cons_succ]
                    refine wpAnyH_done (by kernel_rfl) ?_ _
                    have BF := B82
                    have hg9 := hd8.out.below BF.out
                    have hg4 := hT8.out.below BF.out
                    have HG9 := Lib.hid hg9
                    have HG4 := Lib.hid hg4
                    clear hg9 hg4 hR8
                    go_wp2_with (first
                      | (refine dg_load_g rfl (.tmp 9) rfl g9 (T l) HG9.out (T_len _) rfl ?_)
                      | (refine dg_load_g rfl (.tmp 4) rfl g (T l) HG4.out (T_len _) rfl ?_))
                    go_roundw
                    case rel => exact ⟨k + 1, by omega, by go_num, Lib.hid (hW8.out.trans (BF.out.mono hW8.out.size))⟩
                    case measure => simp [intOf]; omega
          · rw [if_pos (by rfl)]
            refine wp_b1 rfl 49 rfl d rfl HD32.out ?_
            intro U83 g83 hbe83 hge83 hlt83 L83
            have B83 := Lib.hid (B77.out.trans (hbe83.mono B77.out.size))
            have hz83 := B77.out.size
            have O83 := Lib.hid (OwnN.later O77.out hbe83)
            have A83 := Lib.hid (A77.out.below hbe83)
            have hy83 := hbe83.size
            have ob83 : ∀ j, (.slice (some ⟨g77, 0, none⟩) 0 0 : Value).ownBlock = some j → w8.heap.size ≤ j ∧ g83 ≠ j ∧ g76 ≠ j := fun j e => by
              have h0 := ob77 j e
              have h1 := OwnN.lt O77.out e
              exact ⟨h0.1, by omega, h0.2⟩
            clear hbe83
            refine hK.out _ _ (range_below hR8 B83.out) (fun _ => ?_)
            try simp only [Act.put, List.setIfInBounds_toArray, List.set_cons_zero, List.set_cons_succ]
            clear hK K
            refine wpAnyH_ready (rs := [6]) (by kernel_rfl) (by simp) ?_
            refine AllReadyH.cons rfl (fun K hK => ?_) AllReadyH.nil
            · rw [if_pos (by rfl)]
              refine wp_ap rfl (.tmp 46) (.tmp 47) rfl (.slice (some ⟨g77, 0, none⟩) 0 0) (.slice pp (PA l k).length pc) ([] : List (List UInt8)) (PA l k) rfl O83.out rfl (hP8.out.below B83.out) HP32.out (by simp; omega) ?_
              intro v84 U84 O84 hg84 hv84
              have B84 := Lib.hid (grown_below B83.out B83.out.size hg84 (fun j e => (ob83 j e).1))
              have hz84 := B83.out.size
              have hy84 := hg84.size
              have A84 := Lib.hid (keep_grown A83.out hg84 (fun j e => (ob83 j e).2.2))
              have L84 := Lib.hid (ld_grown L83.out hg84 (fun j e => (ob83 j e).2.1))
              have ob84 : ∀ j, v84.ownBlock = some j → w8.heap.size ≤ j ∧ g83 ≠ j ∧ g76 ≠ j := fun j e => by
                rcases hv84 with h | ⟨j', h, h'⟩
                · rw [h] at e
                  have h0 := ob83 j e
                  exact ⟨h0.1, h0.2.1, h0.2.2⟩
                · rw [h] at e
                  have e' : j' = j := Option.some.inj e
                  subst e'
                  exact ⟨by omega, by omega, by omega⟩
              clear hg84 hv84
              refine hK.out _ _ (range_below hR8 B84.out) (fun _ => ?_)
              try simp only [Act.put, List.setIfInBounds_toArray, List.set_cons_zero, List.set_cons_succ]
              clear hK K
              refine wpAnyH_ready (rs := [9]) (by kernel_rfl) (by simp) ?_
              refine AllReadyH.cons rfl (fun K hK => ?_) AllReadyH.nil
              · rw [if_pos (by rfl)]
                refine wp_ap rfl (.tmp 48) (.tmp 50) rfl (v84) (.slice (some ⟨g83, 0, none⟩) 1 1) (([] : List (List UInt8)) ++ (PA l k)) [d] rfl O84.out rfl L84.out hd32s.out (by simp; omega) ?_
                intro v85 U85 O85 hg85 hv85
                have B85 := Lib.hid (grown_below B84.out B84.out.size hg85 (fun j e => (ob84 j e).1))
                have hz85 := B84.out.size
                have hy85 := hg85.size
                have A85 := Lib.hid (keep_grown A84.out hg85 (fun j e => (ob84 j e).2.2))
                have ob85 : ∀ j, v85.ownBlock = some j → w8.heap.size ≤ j ∧ g76 ≠ j := fun j e => by
                  rcases hv85 with h | ⟨j', h, h'⟩
                  · rw [h] at e
                    have h0 := ob84 j e
                    exact ⟨h0.1, h0.2.2⟩
                  · rw [h] at e
                    have e' : j' = j := Option.some.inj e
                    subst e'
                    exact ⟨by omega, by omega⟩
                clear hg85 hv85
                refine hK.out _ _ (range_below hR8 B85.out) (fun _ => ?_)
                try simp only [Act.put, List.setIfInBounds_toArray, List.set_cons_zero, List.set_cons_succ]
                clear hK K
                refine wpAnyH_ready (rs := [10]) (by kernel_rfl) (by simp) ?_
                refine AllReadyH.cons rfl (fun K hK => ?_) AllReadyH.nil
                · rw [if_pos (by rfl)]
                  obtain ⟨q86, m86, c86, e86, i86⟩ : ∃ q m c, v85 = .slice q m c ∧ m = ((([] : List (List UInt8)) ++ (PA l k)) ++ [d]).length := by
                    rcases O85.out with ⟨e1, e2, _⟩ | ⟨gg, cc, e1, _⟩
                    · exact ⟨_, _, _, e1, e2.symm⟩
                    · exact ⟨_, _, _, e1, rfl⟩
                  have im86 : m86 ≠ PL k n := by rw [i86]; have := HPL.out; simp; omega
                  rw [e86]
                  clear i86
                  go_simp
                  go_at_call 22
                  refine (climb_len d k n q86 m86 c86 U85 (by omega) (by omega) hlt im86).mono ?_
                  rintro e U86 ⟨rfl, hbe86⟩
                  have B86 := Lib.hid (B85.out.trans (hbe86.mono B85.out.size))
                  have hz86 := B85.out.size
                  have A86 := Lib.hid (A85.out.below hbe86)
                  clear hbe86
                  refine hK.out _ _ (range_below hR8 B86.out) (fun _ => ?_)
                  try simp only [Act.put, List.setIfInBounds_toArray, List.set_cons_zero, List.set_cons_succ]
                  refine take_at (i := 11) (k := 41) (v := .tuple #[dgv zeros, .int .i64 1]) rfl rfl (by kernel_rfl) (by kernel_rfl) (by kernel_rfl) (fun _ _ _ h => h) (Or.inl ⟨by rfl, fun w _ => rfl⟩) (range_below hR8 B86.out) ?_
                  try simp only [Act.put, List.setIfInBounds_toArray, List.set_cons_zero, List.set_cons_succ]
                  refine take_at (i := 12) (k := 53) (v := dgv zeros) rfl rfl (by kernel_rfl) (by kernel_rfl) (by kernel_rfl) (fun _ _ _ h => h) (Or.inl ⟨by rfl, fun w _ => rfl⟩) (range_below hR8 B86.out) ?_
                  try simp only [Act.put, List.setIfInBounds_toArray, List.set_cons_zero, List.set_cons_succ]
                  refine take_at (i := 13) (k := 54) (v := .int .i64 1) rfl rfl (by kernel_rfl) (by kernel_rfl) (by kernel_rfl) (fun _ _ _ h => h) (Or.inl ⟨by rfl, fun w _ => rfl⟩) (range_below hR8 B86.out) ?_
                  try simp only [Act.put, List.setIfInBounds_toArray, List.set_cons_zero, List.set_cons_succ]
                  try simp only [Act.put, List.setIfInBounds_toArray, List.set_cons_zero, List.set_cons_succ]
                  clear hK K
                  refine wpAnyH_ready (rs := [15]) (by kernel_rfl) (by simp) ?_
                  refine AllReadyH.cons rfl (fun K hK => ?_) AllReadyH.nil
                  · rw [if_pos (by rfl)]
                    refine wp_st (.tmp 11) (.tmp 53) rfl rfl g76 zeros zeros A86.out (by simp [zeros]) (by simp [zeros]) rfl rfl ?_
                    intro U87 hd87 hc87
                    have B87 := Lib.hid (Chg.below B86.out B86.out.size (by omega) hc87)
                    clear hc87 hd87
                    refine hK.out _ _ (range_below hR8 B87.out) (fun _ => ?_)
                    try simp only [Act.put, List.setIfInBounds_toArray, List.set_cons_zero, List.set_cons_succ]
                    clear hK K
                    refine take_at (i := 16) (k := 12) (v := .int .i64 1) rfl rfl (by kernel_rfl) (by kernel_rfl) (by kernel_rfl) (fun _ _ _ h => h) (Or.inl ⟨by rfl, fun w _ => rfl⟩) (range_below hR8 B87.out) ?_
                    try simp only [Act.put, List.setIfInBounds_toArray, List.set_cons_zero, List.set_cons_succ]
                    refine wpAnyH_done (by kernel_rfl) ?_ _
                    have BF := B87
                    have hg9 := hd8.out.below BF.out
                    have hg4 := hT8.out.below BF.out
                    have HG9 := Lib.hid hg9
                    have HG4 := Lib.hid hg4
                    clear hg9 hg4 hR8
                    go_wp2_with (first
                      | (refine dg_load_g rfl (.tmp 9) rfl g9 (T l) HG9.out (T_len _) rfl ?_)
                      | (refine dg_load_g rfl (.tmp 4) rfl g (T l) HG4.out (T_len _) rfl ?_))
                    go_roundw
                    case rel => exact ⟨k + 1, by omega, by go_num, Lib.hid (hW8.out.trans (BF.out.mono hW8.out.size))⟩
                    case measure => simp [intOf]; omega
        · rw [if_pos (by rfl)]
          refine wp_b1 rfl 49 rfl d rfl HD32.out ?_
          intro U88 g88 hbe88 hge88 hlt88 L88
          have B88 := Lib.hid (B76.out.trans (hbe88.mono B76.out.size))
          have hz88 := B76.out.size
          have A88 := Lib.hid (A76.out.below hbe88)
          have hy88 := hbe88.size
          clear hbe88
          refine hK.out _ _ (range_below hR8 B88.out) (fun _ => ?_)
          try simp only [Act.put, List.setIfInBounds_toArray, List.set_cons_zero, List.set_cons_succ]
          clear hK K
          refine wpAnyH_ready (rs := [4]) (by kernel_rfl) (by simp) ?_
          refine AllReadyH.cons rfl (fun K hK => ?_) AllReadyH.nil
          · rw [if_pos (by rfl)]
            refine wp_b0 rfl rfl ?_
            intro U89 g89 hbe89 hge89 hlt89 O89
            have B89 := Lib.hid (B88.out.trans (hbe89.mono B88.out.size))
            have hz89 := B88.out.size
            have L89 := Lib.hid (L88.out.below hbe89)
            have A89 := Lib.hid (A88.out.below hbe89)
            have hy89 := hbe89.size
            have ob89 : ∀ j, (Value.slice (some ⟨g89, 0, none⟩) 0 0).ownBlock = some j → w8.heap.size ≤ j ∧ g88 ≠ j ∧ g76 ≠ j := fun j e => by
              have e' : g89 = j := Option.some.inj e
              subst e'
              exact ⟨by omega, by omega, by omega⟩
            clear hbe89
            refine hK.out _ _ (range_below hR8 B89.out) (fun _ => ?_)
            try simp only [Act.put, List.setIfInBounds_toArray, List.set_cons_zero, List.set_cons_succ]
            clear hK K
            refine wpAnyH_ready (rs := [6]) (by kernel_rfl) (by simp) ?_
            refine AllReadyH.cons rfl (fun K hK => ?_) AllReadyH.nil
            · rw [if_pos (by rfl)]
              refine wp_ap rfl (.tmp 46) (.tmp 47) rfl (.slice (some ⟨g89, 0, none⟩) 0 0) (.slice pp (PA l k).length pc) ([] : List (List UInt8)) (PA l k) rfl O89.out rfl (hP8.out.below B89.out) HP32.out (by simp; omega) ?_
              intro v90 U90 O90 hg90 hv90
              have B90 := Lib.hid (grown_below B89.out B89.out.size hg90 (fun j e => (ob89 j e).1))
              have hz90 := B89.out.size
              have hy90 := hg90.size
              have A90 := Lib.hid (keep_grown A89.out hg90 (fun j e => (ob89 j e).2.2))
              have L90 := Lib.hid (ld_grown L89.out hg90 (fun j e => (ob89 j e).2.1))
              have ob90 : ∀ j, v90.ownBlock = some j → w8.heap.size ≤ j ∧ g88 ≠ j ∧ g76 ≠ j := fun j e => by
                rcases hv90 with h | ⟨j', h, h'⟩
                · rw [h] at e
                  have h0 := ob89 j e
                  exact ⟨h0.1, h0.2.1, h0.2.2⟩
                · rw [h] at e
                  have e' : j' = j := Option.some.inj e
                  subst e'
                  exact ⟨by omega, by omega, by omega⟩
              clear hg90 hv90
              refine hK.out _ _ (range_below hR8 B90.out) (fun _ => ?_)
              try simp only [Act.put, List.setIfInBounds_toArray, List.set_cons_zero, List.set_cons_succ]
              clear hK K
              refine wpAnyH_ready (rs := [9]) (by kernel_rfl) (by simp) ?_
              refine AllReadyH.cons rfl (fun K hK => ?_) AllReadyH.nil
              · rw [if_pos (by rfl)]
                refine wp_ap rfl (.tmp 48) (.tmp 50) rfl (v90) (.slice (some ⟨g88, 0, none⟩) 1 1) (([] : List (List UInt8)) ++ (PA l k)) [d] rfl O90.out rfl L90.out hd32s.out (by simp; omega) ?_
                intro v91 U91 O91 hg91 hv91
                have B91 := Lib.hid (grown_below B90.out B90.out.size hg91 (fun j e => (ob90 j e).1))
                have hz91 := B90.out.size
                have hy91 := hg91.size
                have A91 := Lib.hid (keep_grown A90.out hg91 (fun j e => (ob90 j e).2.2))
                have ob91 : ∀ j, v91.ownBlock = some j → w8.heap.size ≤ j ∧ g76 ≠ j := fun j e => by
                  rcases hv91 with h | ⟨j', h, h'⟩
                  · rw [h] at e
                    have h0 := ob90 j e
                    exact ⟨h0.1, h0.2.2⟩
                  · rw [h] at e
                    have e' : j' = j := Option.some.inj e
                    subst e'
                    exact ⟨by omega, by omega⟩
                clear hg91 hv91
                refine hK.out _ _ (range_below hR8 B91.out) (fun _ => ?_)
                try simp only [Act.put, List.setIfInBounds_toArray, List.set_cons_zero, List.set_cons_succ]
                clear hK K
                refine wpAnyH_ready (rs := [10]) (by kernel_rfl) (by simp) ?_
                refine AllReadyH.cons rfl (fun K hK => ?_) AllReadyH.nil
                · rw [if_pos (by rfl)]
                  obtain ⟨q92, m92, c92, e92, i92⟩ : ∃ q m c, v91 = .slice q m c ∧ m = ((([] : List (List UInt8)) ++ (PA l k)) ++ [d]).length := by
                    rcases O91.out with ⟨e1, e2, _⟩ | ⟨gg, cc, e1, _⟩
                    · exact ⟨_, _, _, e1, e2.symm⟩
                    · exact ⟨_, _, _, e1, rfl⟩
                  have im92 : m92 ≠ PL k n := by rw [i92]; have := HPL.out; simp; omega
                  rw [e92]
                  clear i92
                  go_simp
                  go_at_call 22
                  refine (climb_len d k n q92 m92 c92 U91 (by omega) (by omega) hlt im92).mono ?_
                  rintro e U92 ⟨rfl, hbe92⟩
                  have B92 := Lib.hid (B91.out.trans (hbe92.mono B91.out.size))
                  have hz92 := B91.out.size
                  have A92 := Lib.hid (A91.out.below hbe92)
                  clear hbe92
                  refine hK.out _ _ (range_below hR8 B92.out) (fun _ => ?_)
                  try simp only [Act.put, List.setIfInBounds_toArray, List.set_cons_zero, List.set_cons_succ]
                  refine take_at (i := 11) (k := 41) (v := .tuple #[dgv zeros, .int .i64 1]) rfl rfl (by kernel_rfl) (by kernel_rfl) (by kernel_rfl) (fun _ _ _ h => h) (Or.inl ⟨by rfl, fun w _ => rfl⟩) (range_below hR8 B92.out) ?_
                  try simp only [Act.put, List.setIfInBounds_toArray, List.set_cons_zero, List.set_cons_succ]
                  refine take_at (i := 12) (k := 53) (v := dgv zeros) rfl rfl (by kernel_rfl) (by kernel_rfl) (by kernel_rfl) (fun _ _ _ h => h) (Or.inl ⟨by rfl, fun w _ => rfl⟩) (range_below hR8 B92.out) ?_
                  try simp only [Act.put, List.setIfInBounds_toArray, List.set_cons_zero, List.set_cons_succ]
                  refine take_at (i := 13) (k := 54) (v := .int .i64 1) rfl rfl (by kernel_rfl) (by kernel_rfl) (by kernel_rfl) (fun _ _ _ h => h) (Or.inl ⟨by rfl, fun w _ => rfl⟩) (range_below hR8 B92.out) ?_
                  try simp only [Act.put, List.setIfInBounds_toArray, List.set_cons_zero, List.set_cons_succ]
                  try simp only [Act.put, List.setIfInBounds_toArray, List.set_cons_zero, List.set_cons_succ]
                  clear hK K
                  refine wpAnyH_ready (rs := [15]) (by kernel_rfl) (by simp) ?_
                  refine AllReadyH.cons rfl (fun K hK => ?_) AllReadyH.nil
                  · rw [if_pos (by rfl)]
                    refine wp_st (.tmp 11) (.tmp 53) rfl rfl g76 zeros zeros A92.out (by simp [zeros]) (by simp [zeros]) rfl rfl ?_
                    intro U93 hd93 hc93
                    have B93 := Lib.hid (Chg.below B92.out B92.out.size (by omega) hc93)
                    clear hc93 hd93
                    refine hK.out _ _ (range_below hR8 B93.out) (fun _ => ?_)
                    try simp only [Act.put, List.setIfInBounds_toArray, List.set_cons_zero, List.set_cons_succ]
                    clear hK K
                    refine take_at (i := 16) (k := 12) (v := .int .i64 1) rfl rfl (by kernel_rfl) (by kernel_rfl) (by kernel_rfl) (fun _ _ _ h => h) (Or.inl ⟨by rfl, fun w _ => rfl⟩) (range_below hR8 B93.out) ?_
                    try simp only [Act.put, List.setIfInBounds_toArray, List.set_cons_zero, List.set_cons_succ]
                    refine wpAnyH_done (by kernel_rfl) ?_ _
                    have BF := B93
                    have hg9 := hd8.out.below BF.out
                    have hg4 := hT8.out.below BF.out
                    have HG9 := Lib.hid hg9
                    have HG4 := Lib.hid hg4
                    clear hg9 hg4 hR8
                    go_wp2_with (first
                      | (refine dg_load_g rfl (.tmp 9) rfl g9 (T l) HG9.out (T_len _) rfl ?_)
                      | (refine dg_load_g rfl (.tmp 4) rfl g (T l) HG4.out (T_len _) rfl ?_))
                    go_roundw
                    case rel => exact ⟨k + 1, by omega, by go_num, Lib.hid (hW8.out.trans (BF.out.mono hW8.out.size))⟩
                    case measure => simp [intOf]; omega
    · have hkn : k = n := by omega
      have c1 : ¬ ((k : Nat) : Int) < (n : Int) := by omega
      go_wp2_with fail
      go_ret
      exact ⟨rfl, HB4.out.trans (hbr.out.mono HB4.out.size)⟩
end Go.Proofs.YtekboemijafplaaDoor
