/-
  Merkle: the first row in which two ways have one digest (firstCommon).
-/
import Derived.Test.YteeabenmfmeooaaDoorFd
import Derived.Test.YteeabenmfmeooaaDoorSn
import Derived.Scope
namespace Go.Proofs.YteeabenmfmeooaaDoor
open Go Go.RowKit Go.Shelf
attribute [local go_sem] Oper.semAt_some
theorem fc_world (w : World) (x y p q : Value) : ∃ W0, (((((w.alloc (.cells #[hv] 45)).alloc (.cells #[x] 34)).alloc (.cells #[y] 34)).alloc (.cells #[p] 25)).alloc (.cells #[q] 25)) = W0 ∧ W0.heap.size = w.heap.size + 5 ∧ Below w.heap.size w W0 ∧
    W0.cell? ⟨w.heap.size, 0, none⟩ = some hv ∧ Bo W0 (w.heap.size + 1) x ∧ Bo W0 (w.heap.size + 2) y ∧ Bo W0 (w.heap.size + 3) p ∧ Bo W0 (w.heap.size + 4) q := by
  refine ⟨_, rfl, by simp, (((((Below.refl _ w).alloc (Nat.le_refl _) _).alloc (by simp) _).alloc (by simp; omega) _).alloc (by simp; omega) _).alloc (by simp; omega) _, by go_simp, ?_, ?_, ?_, ?_⟩
  all_goals refine ⟨by simp, by go_simp, by go_simp⟩
theorem dgIn_load {l n : Nat} {ops : Array Oper} {rest : List Oper} {o : Oper} {a : Act} {w : World} {Q : Exit → Act → World → Prop} (hgd : o.guard = none) (x : Operand) (ho : o.op = .load 30 x) (g : Nat) (d : List UInt8) (hl : Dg w g d) (hx : d.length = 32)
    (hp : a.eval x = .pointer (some ⟨g, 0, none⟩)) (h : wpListIn (Fence.wide.inRound l) n Tryd.prog ops Q rest (a.put o.dst (dgv d)) w) : wpListIn (Fence.wide.inRound l) n Tryd.prog ops Q (o :: rest) a w :=
  wpListIn_plain hgd fun K hK => oper_round (fun c e => by rw [ho] at e; cases e) (wp_load_row 30 x ho g hp 30 _ (0, 0) _ hl Tryd.underlying30 rfl (dg_size hx) (hK _ _ h))
/-- what the loop of firstCommon leaves -/
def FcR (L : List (Nat × Nat)) (A B : TS) (w : World) (e : Ending) (w' : World) : Prop := ∃ u v, e = .returned (.tuple #[u, v]) ∧ BV w' u (tsL L (fcN L A B) A).1 ∧ BV w' v (tsL L (fcN L A B) B).1 ∧ Below w.heap.size w w'
set_option maxRecDepth 100000 in
set_option maxHeartbeats 8000000 in
theorem first_common (n i : Nat) (u v x y : Value) (ta tb : List UInt8) (p q : List (List UInt8)) (w : World) (hn : n ≤ 65536) (hi : i < n) (hu : BV w u ta) (hv' : BV w v tb) (ha : ta.length ≤ 2000000) (hb : tb.length ≤ 2000000) (hx : LD w x p) (hy : LD w y q) (hp32 : D32 p) (hq32 : D32 q) (hpl : p.length = plen i n) (hql : q.length = plen i n) (hk : KOK w) :
    Calls Tryd.prog 51 #[hv, .int .i64 (n : Int), .int .i64 (i : Int), u, v, x, y] w (FcR (stepsL i n) (ta, p) (tb, q) w) := by
  have HU := Lib.hid hu
  have HV := Lib.hid hv'
  have HX := Lib.hid hx
  have HY := Lib.hid hy
  have HK := Lib.hid hk
  have H32 := Lib.hid (⟨hp32, hq32⟩ : D32 p ∧ D32 q)
  have HPL := Lib.hid (⟨hpl, hql⟩ : p.length = plen i n ∧ q.length = plen i n)
  obtain ⟨_, c1, p1, rfl, _⟩ := hu
  obtain ⟨_, c2, p2, rfl, _⟩ := hv'
  obtain ⟨_, c3, p3, rfl, _⟩ := hx
  obtain ⟨_, c4, p4, rfl, _⟩ := hy
  clear hk hp32 hq32 hpl hql
  refine (callsIn_wide (n := 3)).1 ?_
  refine callsIn_of_wp_marks Tryd.func51 rfl trivial ?_ rfl
  simp only [Tryd.ntmps51, List.size_toArray, List.length_cons, List.length_nil, Nat.reduceAdd, Nat.reduceSub, Array.replicate_succ, Array.replicate_zero, List.push_toArray, List.append_toArray, List.nil_append, List.cons_append]
  gi_wp2
  obtain ⟨W0, hW0, hsz, hB0, k0, o1, o2, o3, o4⟩ := fc_world w (.slice p1 ta.length c1) (.slice p2 tb.length c2) (.slice p3 p.length c3) (.slice p4 q.length c4)
  rw [hW0]
  clear hW0
  generalize hb4 : w.heap.size + 1 + 1 + 1 + 1 = b4
  generalize hb3 : w.heap.size + 1 + 1 + 1 = b3
  generalize hb2 : w.heap.size + 1 + 1 = b2
  generalize hb1 : w.heap.size + 1 = b1
  have o1 : Bo W0 b1 (.slice p1 ta.length c1) := hb1 ▸ o1
  have o2 : Bo W0 b2 (.slice p2 tb.length c2) := hb2 ▸ o2
  have o3 : Bo W0 b3 (.slice p3 p.length c3) := hb3 ▸ o3
  have o4 : Bo W0 b4 (.slice p4 q.length c4) := hb4 ▸ o4
  have HB0 := Lib.hid hB0
  have hKW : Hid (∀ U, Below W0.heap.size W0 U → KOK U) := Lib.hid fun U hb => HK.out.below (HB0.out.trans (hb.mono HB0.out.size))
  have hS1 : Hid (∀ U, Below W0.heap.size W0 U → Calls Tryd.prog 21 #[.slice p1 ta.length c1] U (ShaR ta U)) := Lib.hid fun U hb => sum_any _ ta U (HU.out.below (HB0.out.trans (hb.mono HB0.out.size))) (by omega) (hKW.out U hb)
  have hS2 : Hid (∀ U, Below W0.heap.size W0 U → Calls Tryd.prog 21 #[.slice p2 tb.length c2] U (ShaR tb U)) := Lib.hid fun U hb => sum_any _ tb U (HV.out.below (HB0.out.trans (hb.mono HB0.out.size))) (by omega) (hKW.out U hb)
  have hSB : Hid (∀ U, Below W0.heap.size W0 U → U.cell? ⟨w.heap.size, 0, none⟩ = some hv ∧ U.cell? ⟨b1, 0, none⟩ = some (.slice p1 ta.length c1) ∧ U.cell? ⟨b2, 0, none⟩ = some (.slice p2 tb.length c2)) := Lib.hid fun U hb => ⟨(hb.cell (p := ⟨w.heap.size, 0, none⟩) (by simp only; omega)).trans k0, (o1.below hb).c, (o2.below hb).c⟩
  have B0 : Hid (Below W0.heap.size W0 W0.drew) := Lib.hid ⟨rfl, rfl, rfl, Nat.le_refl _, fun _ _ => rfl⟩
  have S0 := Lib.hid (hSB.out _ B0.out)
  refine wpIn_wide.2 (wp_scope_straight ((wpIn_wide (n := 3)).1 ?_))
  gi_wp2
  refine wpIn_wide.2 ?_
  go_cut [16, 17] from 19 to 24 (fun s16 s17 wc => ∃ gd gf : Nat, s16 = .pointer (some ⟨gd, 0, none⟩) ∧ s17 = .pointer (some ⟨gf, 0, none⟩) ∧ gd ≠ gf ∧ W0.heap.size ≤ gd ∧ W0.heap.size ≤ gf ∧ Hid (Dg wc gd (sha ta)) ∧ Hid (Dg wc gf (sha tb)) ∧ Hid (Below W0.heap.size W0 wc))
  case first =>
    refine Code.wp_mono (Q := Exit.then _ (fun _ _ _ => False)) (fun e a w h => by cases e <;> first | exact h | exact False.elim h) ?_
    refine wp_region_held_drew (S := fun U => U.cell? ⟨w.heap.size, 0, none⟩ = some hv ∧ U.cell? ⟨b1, 0, none⟩ = some (.slice p1 ta.length c1) ∧ U.cell? ⟨b2, 0, none⟩ = some (.slice p2 tb.length c2)) (by kernel_rfl) S0.out (fun hHeld => ?_)
    refine take_at (i := 0) (k := 19) (v := hv) rfl rfl (by kernel_rfl) (by kernel_rfl) (by kernel_rfl) (fun _ _ _ h => h) (Or.inl ⟨by rfl, fun w' h => by have a0 := h.1; go_simp⟩) hHeld ?_
    try simp only [Act.put, List.setIfInBounds_toArray, List.set_cons_zero, List.set_cons_succ]
    refine take_at (i := 1) (k := 20) (v := .slice p1 ta.length c1) rfl rfl (by kernel_rfl) (by kernel_rfl) (by kernel_rfl) (fun _ _ _ h => h) (Or.inl ⟨by rfl, fun w' h => by have a0 := h.2.1; go_simp⟩) hHeld ?_
    try simp only [Act.put, List.setIfInBounds_toArray, List.set_cons_zero, List.set_cons_succ]
    refine take_at (i := 3) (k := 22) (v := hv) rfl rfl (by kernel_rfl) (by kernel_rfl) (by kernel_rfl) (fun _ _ _ h => h) (Or.inl ⟨by rfl, fun w' h => by have a0 := h.1; go_simp⟩) hHeld ?_
    try simp only [Act.put, List.setIfInBounds_toArray, List.set_cons_zero, List.set_cons_succ]
    refine take_at (i := 4) (k := 23) (v := .slice p2 tb.length c2) rfl rfl (by kernel_rfl) (by kernel_rfl) (by kernel_rfl) (fun _ _ _ h => h) (Or.inl ⟨by rfl, fun w' h => by have a0 := h.2.2; go_simp⟩) hHeld ?_
    try simp only [Act.put, List.setIfInBounds_toArray, List.set_cons_zero, List.set_cons_succ]
    clear hHeld
    refine wpAnyH_ready (rs := [2, 6, 7]) (by kernel_rfl) (by simp) ?_
    refine AllReadyH.cons rfl (fun K hK => ?_) (AllReadyH.cons rfl (fun K hK => ?_) (AllReadyH.cons rfl (fun K hK => ?_) AllReadyH.nil))
    · rw [if_pos (by rfl)]
      go_simp
      go_at_call 21
      refine (hS1.out _ B0.out).mono ?_
      rintro e U1 ⟨rfl, hba1⟩
      have B1 := Lib.hid (B0.out.trans (hba1.mono B0.out.size))
      refine hK.out _ _ (Lib.hid (hSB.out _ B1.out)).out (fun hHeld => ?_)
      try simp only [Act.put, List.setIfInBounds_toArray, List.set_cons_zero, List.set_cons_succ]
      clear hK K
      clear hHeld
      refine wpAnyH_ready (rs := [5, 6, 7]) (by kernel_rfl) (by simp) ?_
      refine AllReadyH.cons rfl (fun K hK => ?_) (AllReadyH.cons rfl (fun K hK => ?_) (AllReadyH.cons rfl (fun K hK => ?_) AllReadyH.nil))
      · rw [if_pos (by rfl)]
        go_simp
        go_at_call 21
        refine (hS2.out _ B1.out).mono ?_
        rintro e U2 ⟨rfl, hba2⟩
        have B2 := Lib.hid (B1.out.trans (hba2.mono B1.out.size))
        refine hK.out _ _ (Lib.hid (hSB.out _ B2.out)).out (fun hHeld => ?_)
        try simp only [Act.put, List.setIfInBounds_toArray, List.set_cons_zero, List.set_cons_succ]
        clear hK K
        clear hHeld
        refine wpAnyH_ready (rs := [6, 7]) (by kernel_rfl) (by simp) ?_
        refine AllReadyH.cons rfl (fun K hK => ?_) (AllReadyH.cons rfl (fun K hK => ?_) AllReadyH.nil)
        · rw [if_pos (by rfl)]
          refine al_op rfl rfl ?_
          rintro U3 ga3 hba3 hga3 hz3
          have ge3 := Nat.le_trans B2.out.size hga3
          have B3 := Lib.hid (B2.out.trans (hba3.mono B2.out.size))
          refine hK.out _ _ (Lib.hid (hSB.out _ B3.out)).out (fun hHeld => ?_)
          try simp only [Act.put, List.setIfInBounds_toArray, List.set_cons_zero, List.set_cons_succ]
          clear hK K
          clear hHeld
          refine wpAnyH_ready (rs := [7]) (by kernel_rfl) (by simp) ?_
          refine AllReadyH.cons rfl (fun K hK => ?_) AllReadyH.nil
          rw [if_pos (by rfl)]
          refine al_op rfl rfl ?_
          rintro U4 ga4 hba4 hga4 hz4
          have ne4_d : ga3 ≠ ga4 := by have := hz3.out.lt; omega
          have ge4 := Nat.le_trans B3.out.size hga4
          have B4 := Lib.hid (B3.out.trans (hba4.mono B3.out.size))
          have z4_d := Lib.hid (hz3.out.below hba4)
          refine hK.out _ _ (Lib.hid (hSB.out _ B4.out)).out (fun hHeld => ?_)
          try simp only [Act.put, List.setIfInBounds_toArray, List.set_cons_zero, List.set_cons_succ]
          clear hK K
          clear hHeld
          refine wpAnyH_ready (rs := [8]) (by kernel_rfl) (by simp) ?_
          refine AllReadyH.cons rfl (fun K hK => ?_) AllReadyH.nil
          rw [if_pos (by rfl)]
          refine dg_op (.tmp 16) (.tmp 21) rfl ga3 _ _ z4_d.out (by simp) (sha_len _) rfl rfl ?_
          rintro U5 hd5 hc5
          have B5 := Lib.hid (Chg.below B4.out B4.out.size ge3 hc5)
          have z5_f := Lib.hid (Dg.other hz4.out hc5 ne4_d.symm)
          refine hK.out _ _ (Lib.hid (hSB.out _ B5.out)).out (fun hHeld => ?_)
          try simp only [Act.put, List.setIfInBounds_toArray, List.set_cons_zero, List.set_cons_succ]
          clear hK K
          clear hHeld
          refine wpAnyH_ready (rs := [9]) (by kernel_rfl) (by simp) ?_
          refine AllReadyH.cons rfl (fun K hK => ?_) AllReadyH.nil
          rw [if_pos (by rfl)]
          refine dg_op (.tmp 17) (.tmp 24) rfl ga4 _ _ z5_f.out (by simp) (sha_len _) rfl rfl ?_
          rintro U6 hd6 hc6
          have B6 := Lib.hid (Chg.below B5.out B5.out.size ge4 hc6)
          have z6_d := Lib.hid (Dg.other hd5.out hc6 ne4_d)
          refine hK.out _ _ (Lib.hid (hSB.out _ B6.out)).out (fun hHeld => ?_)
          try simp only [Act.put, List.setIfInBounds_toArray, List.set_cons_zero, List.set_cons_succ]
          clear hK K
          clear hHeld
          refine wpAnyH_done (by kernel_rfl) ?_ _
          go_wp2_with fail
          go_meet
          case rel => exact ⟨ga3, ga4, rfl, rfl, ne4_d, ge3, ge4, z6_d, hd6, B6⟩
        · rw [if_pos (by rfl)]
          refine al_op rfl rfl ?_
          rintro U3 ga3 hba3 hga3 hz3
          have ge3 := Nat.le_trans B2.out.size hga3
          have B3 := Lib.hid (B2.out.trans (hba3.mono B2.out.size))
          refine hK.out _ _ (Lib.hid (hSB.out _ B3.out)).out (fun hHeld => ?_)
          try simp only [Act.put, List.setIfInBounds_toArray, List.set_cons_zero, List.set_cons_succ]
          clear hK K
          clear hHeld
          refine wpAnyH_ready (rs := [6]) (by kernel_rfl) (by simp) ?_
          refine AllReadyH.cons rfl (fun K hK => ?_) AllReadyH.nil
          rw [if_pos (by rfl)]
          refine al_op rfl rfl ?_
          rintro U4 ga4 hba4 hga4 hz4
          have ne4_f : ga3 ≠ ga4 := by have := hz3.out.lt; omega
          have ge4 := Nat.le_trans B3.out.size hga4
          have B4 := Lib.hid (B3.out.trans (hba4.mono B3.out.size))
          have z4_f := Lib.hid (hz3.out.below hba4)
          refine hK.out _ _ (Lib.hid (hSB.out _ B4.out)).out (fun hHeld => ?_)
          try simp only [Act.put, List.setIfInBounds_toArray, List.set_cons_zero, List.set_cons_succ]
          clear hK K
          clear hHeld
          refine wpAnyH_ready (rs := [8]) (by kernel_rfl) (by simp) ?_
          refine AllReadyH.cons rfl (fun K hK => ?_) AllReadyH.nil
          rw [if_pos (by rfl)]
          refine dg_op (.tmp 16) (.tmp 21) rfl ga4 _ _ hz4.out (by simp) (sha_len _) rfl rfl ?_
          rintro U5 hd5 hc5
          have B5 := Lib.hid (Chg.below B4.out B4.out.size ge4 hc5)
          have z5_f := Lib.hid (Dg.other z4_f.out hc5 ne4_f)
          refine hK.out _ _ (Lib.hid (hSB.out _ B5.out)).out (fun hHeld => ?_)
          try simp only [Act.put, List.setIfInBounds_toArray, List.set_cons_zero, List.set_cons_succ]
          clear hK K
          clear hHeld
          refine wpAnyH_ready (rs := [9]) (by kernel_rfl) (by simp) ?_
          refine AllReadyH.cons rfl (fun K hK => ?_) AllReadyH.nil
          rw [if_pos (by rfl)]
          refine dg_op (.tmp 17) (.tmp 24) rfl ga3 _ _ z5_f.out (by simp) (sha_len _) rfl rfl ?_
          rintro U6 hd6 hc6
          have B6 := Lib.hid (Chg.below B5.out B5.out.size ge3 hc6)
          have z6_d := Lib.hid (Dg.other hd5.out hc6 ne4_f.symm)
          refine hK.out _ _ (Lib.hid (hSB.out _ B6.out)).out (fun hHeld => ?_)
          try simp only [Act.put, List.setIfInBounds_toArray, List.set_cons_zero, List.set_cons_succ]
          clear hK K
          clear hHeld
          refine wpAnyH_done (by kernel_rfl) ?_ _
          go_wp2_with fail
          go_meet
          case rel => exact ⟨ga4, ga3, rfl, rfl, ne4_f.symm, ge4, ge3, z6_d, hd6, B6⟩
      · rw [if_pos (by rfl)]
        refine al_op rfl rfl ?_
        rintro U2 ga2 hba2 hga2 hz2
        have ge2 := Nat.le_trans B1.out.size hga2
        have B2 := Lib.hid (B1.out.trans (hba2.mono B1.out.size))
        refine hK.out _ _ (Lib.hid (hSB.out _ B2.out)).out (fun hHeld => ?_)
        try simp only [Act.put, List.setIfInBounds_toArray, List.set_cons_zero, List.set_cons_succ]
        clear hK K
        clear hHeld
        refine wpAnyH_ready (rs := [5, 7]) (by kernel_rfl) (by simp) ?_
        refine AllReadyH.cons rfl (fun K hK => ?_) (AllReadyH.cons rfl (fun K hK => ?_) AllReadyH.nil)
        · rw [if_pos (by rfl)]
          go_simp
          go_at_call 21
          refine (hS2.out _ B2.out).mono ?_
          rintro e U3 ⟨rfl, hba3⟩
          have B3 := Lib.hid (B2.out.trans (hba3.mono B2.out.size))
          have z3_d := Lib.hid (hz2.out.below hba3)
          refine hK.out _ _ (Lib.hid (hSB.out _ B3.out)).out (fun hHeld => ?_)
          try simp only [Act.put, List.setIfInBounds_toArray, List.set_cons_zero, List.set_cons_succ]
          clear hK K
          clear hHeld
          refine wpAnyH_ready (rs := [7]) (by kernel_rfl) (by simp) ?_
          refine AllReadyH.cons rfl (fun K hK => ?_) AllReadyH.nil
          rw [if_pos (by rfl)]
          refine al_op rfl rfl ?_
          rintro U4 ga4 hba4 hga4 hz4
          have ne4_d : ga2 ≠ ga4 := by have := z3_d.out.lt; omega
          have ge4 := Nat.le_trans B3.out.size hga4
          have B4 := Lib.hid (B3.out.trans (hba4.mono B3.out.size))
          have z4_d := Lib.hid (z3_d.out.below hba4)
          refine hK.out _ _ (Lib.hid (hSB.out _ B4.out)).out (fun hHeld => ?_)
          try simp only [Act.put, List.setIfInBounds_toArray, List.set_cons_zero, List.set_cons_succ]
          clear hK K
          clear hHeld
          refine wpAnyH_ready (rs := [8]) (by kernel_rfl) (by simp) ?_
          refine AllReadyH.cons rfl (fun K hK => ?_) AllReadyH.nil
          rw [if_pos (by rfl)]
          refine dg_op (.tmp 16) (.tmp 21) rfl ga2 _ _ z4_d.out (by simp) (sha_len _) rfl rfl ?_
          rintro U5 hd5 hc5
          have B5 := Lib.hid (Chg.below B4.out B4.out.size ge2 hc5)
          have z5_f := Lib.hid (Dg.other hz4.out hc5 ne4_d.symm)
          refine hK.out _ _ (Lib.hid (hSB.out _ B5.out)).out (fun hHeld => ?_)
          try simp only [Act.put, List.setIfInBounds_toArray, List.set_cons_zero, List.set_cons_succ]
          clear hK K
          clear hHeld
          refine wpAnyH_ready (rs := [9]) (by kernel_rfl) (by simp) ?_
          refine AllReadyH.cons rfl (fun K hK => ?_) AllReadyH.nil
          rw [if_pos (by rfl)]
          refine dg_op (.tmp 17) (.tmp 24) rfl ga4 _ _ z5_f.out (by simp) (sha_len _) rfl rfl ?_
          rintro U6 hd6 hc6
          have B6 := Lib.hid (Chg.below B5.out B5.out.size ge4 hc6)
          have z6_d := Lib.hid (Dg.other hd5.out hc6 ne4_d)
          refine hK.out _ _ (Lib.hid (hSB.out _ B6.out)).out (fun hHeld => ?_)
          try simp only [Act.put, List.setIfInBounds_toArray, List.set_cons_zero, List.set_cons_succ]
          clear hK K
          clear hHeld
          refine wpAnyH_done (by kernel_rfl) ?_ _
          go_wp2_with fail
          go_meet
          case rel => exact ⟨ga2, ga4, rfl, rfl, ne4_d, ge2, ge4, z6_d, hd6, B6⟩
        · rw [if_pos (by rfl)]
          refine al_op rfl rfl ?_
          rintro U3 ga3 hba3 hga3 hz3
          have ne3_d : ga2 ≠ ga3 := by have := hz2.out.lt; omega
          have ge3 := Nat.le_trans B2.out.size hga3
          have B3 := Lib.hid (B2.out.trans (hba3.mono B2.out.size))
          have z3_d := Lib.hid (hz2.out.below hba3)
          refine hK.out _ _ (Lib.hid (hSB.out _ B3.out)).out (fun hHeld => ?_)
          try simp only [Act.put, List.setIfInBounds_toArray, List.set_cons_zero, List.set_cons_succ]
          clear hK K
          clear hHeld
          refine wpAnyH_ready (rs := [5]) (by kernel_rfl) (by simp) ?_
          refine AllReadyH.cons rfl (fun K hK => ?_) AllReadyH.nil
          rw [if_pos (by rfl)]
          go_simp
          go_at_call 21
          refine (hS2.out _ B3.out).mono ?_
          rintro e U4 ⟨rfl, hba4⟩
          have B4 := Lib.hid (B3.out.trans (hba4.mono B3.out.size))
          have z4_d := Lib.hid (z3_d.out.below hba4)
          have z4_f := Lib.hid (hz3.out.below hba4)
          refine hK.out _ _ (Lib.hid (hSB.out _ B4.out)).out (fun hHeld => ?_)
          try simp only [Act.put, List.setIfInBounds_toArray, List.set_cons_zero, List.set_cons_succ]
          clear hK K
          clear hHeld
          refine wpAnyH_ready (rs := [8]) (by kernel_rfl) (by simp) ?_
          refine AllReadyH.cons rfl (fun K hK => ?_) AllReadyH.nil
          rw [if_pos (by rfl)]
          refine dg_op (.tmp 16) (.tmp 21) rfl ga2 _ _ z4_d.out (by simp) (sha_len _) rfl rfl ?_
          rintro U5 hd5 hc5
          have B5 := Lib.hid (Chg.below B4.out B4.out.size ge2 hc5)
          have z5_f := Lib.hid (Dg.other z4_f.out hc5 ne3_d.symm)
          refine hK.out _ _ (Lib.hid (hSB.out _ B5.out)).out (fun hHeld => ?_)
          try simp only [Act.put, List.setIfInBounds_toArray, List.set_cons_zero, List.set_cons_succ]
          clear hK K
          clear hHeld
          refine wpAnyH_ready (rs := [9]) (by kernel_rfl) (by simp) ?_
          refine AllReadyH.cons rfl (fun K hK => ?_) AllReadyH.nil
          rw [if_pos (by rfl)]
          refine dg_op (.tmp 17) (.tmp 24) rfl ga3 _ _ z5_f.out (by simp) (sha_len _) rfl rfl ?_
          rintro U6 hd6 hc6
          have B6 := Lib.hid (Chg.below B5.out B5.out.size ge3 hc6)
          have z6_d := Lib.hid (Dg.other hd5.out hc6 ne3_d)
          refine hK.out _ _ (Lib.hid (hSB.out _ B6.out)).out (fun hHeld => ?_)
          try simp only [Act.put, List.setIfInBounds_toArray, List.set_cons_zero, List.set_cons_succ]
          clear hK K
          clear hHeld
          refine wpAnyH_done (by kernel_rfl) ?_ _
          go_wp2_with fail
          go_meet
          case rel => exact ⟨ga2, ga3, rfl, rfl, ne3_d, ge2, ge3, z6_d, hd6, B6⟩
      · rw [if_pos (by rfl)]
        refine al_op rfl rfl ?_
        rintro U2 ga2 hba2 hga2 hz2
        have ge2 := Nat.le_trans B1.out.size hga2
        have B2 := Lib.hid (B1.out.trans (hba2.mono B1.out.size))
        refine hK.out _ _ (Lib.hid (hSB.out _ B2.out)).out (fun hHeld => ?_)
        try simp only [Act.put, List.setIfInBounds_toArray, List.set_cons_zero, List.set_cons_succ]
        clear hK K
        clear hHeld
        refine wpAnyH_ready (rs := [5, 6]) (by kernel_rfl) (by simp) ?_
        refine AllReadyH.cons rfl (fun K hK => ?_) (AllReadyH.cons rfl (fun K hK => ?_) AllReadyH.nil)
        · rw [if_pos (by rfl)]
          go_simp
          go_at_call 21
          refine (hS2.out _ B2.out).mono ?_
          rintro e U3 ⟨rfl, hba3⟩
          have B3 := Lib.hid (B2.out.trans (hba3.mono B2.out.size))
          have z3_f := Lib.hid (hz2.out.below hba3)
          refine hK.out _ _ (Lib.hid (hSB.out _ B3.out)).out (fun hHeld => ?_)
          try simp only [Act.put, List.setIfInBounds_toArray, List.set_cons_zero, List.set_cons_succ]
          clear hK K
          clear hHeld
          refine wpAnyH_ready (rs := [6]) (by kernel_rfl) (by simp) ?_
          refine AllReadyH.cons rfl (fun K hK => ?_) AllReadyH.nil
          rw [if_pos (by rfl)]
          refine al_op rfl rfl ?_
          rintro U4 ga4 hba4 hga4 hz4
          have ne4_f : ga2 ≠ ga4 := by have := z3_f.out.lt; omega
          have ge4 := Nat.le_trans B3.out.size hga4
          have B4 := Lib.hid (B3.out.trans (hba4.mono B3.out.size))
          have z4_f := Lib.hid (z3_f.out.below hba4)
          refine hK.out _ _ (Lib.hid (hSB.out _ B4.out)).out (fun hHeld => ?_)
          try simp only [Act.put, List.setIfInBounds_toArray, List.set_cons_zero, List.set_cons_succ]
          clear hK K
          clear hHeld
          refine wpAnyH_ready (rs := [8]) (by kernel_rfl) (by simp) ?_
          refine AllReadyH.cons rfl (fun K hK => ?_) AllReadyH.nil
          rw [if_pos (by rfl)]
          refine dg_op (.tmp 16) (.tmp 21) rfl ga4 _ _ hz4.out (by simp) (sha_len _) rfl rfl ?_
          rintro U5 hd5 hc5
          have B5 := Lib.hid (Chg.below B4.out B4.out.size ge4 hc5)
          have z5_f := Lib.hid (Dg.other z4_f.out hc5 ne4_f)
          refine hK.out _ _ (Lib.hid (hSB.out _ B5.out)).out (fun hHeld => ?_)
          try simp only [Act.put, List.setIfInBounds_toArray, List.set_cons_zero, List.set_cons_succ]
          clear hK K
          clear hHeld
          refine wpAnyH_ready (rs := [9]) (by kernel_rfl) (by simp) ?_
          refine AllReadyH.cons rfl (fun K hK => ?_) AllReadyH.nil
          rw [if_pos (by rfl)]
          refine dg_op (.tmp 17) (.tmp 24) rfl ga2 _ _ z5_f.out (by simp) (sha_len _) rfl rfl ?_
          rintro U6 hd6 hc6
          have B6 := Lib.hid (Chg.below B5.out B5.out.size ge2 hc6)
          have z6_d := Lib.hid (Dg.other hd5.out hc6 ne4_f.symm)
          refine hK.out _ _ (Lib.hid (hSB.out _ B6.out)).out (fun hHeld => ?_)
          try simp only [Act.put, List.setIfInBounds_toArray, List.set_cons_zero, List.set_cons_succ]
          clear hK K
          clear hHeld
          refine wpAnyH_done (by kernel_rfl) ?_ _
          go_wp2_with fail
          go_meet
          case rel => exact ⟨ga4, ga2, rfl, rfl, ne4_f.symm, ge4, ge2, z6_d, hd6, B6⟩
        · rw [if_pos (by rfl)]
          refine al_op rfl rfl ?_
          rintro U3 ga3 hba3 hga3 hz3
          have ne3_f : ga2 ≠ ga3 := by have := hz2.out.lt; omega
          have ge3 := Nat.le_trans B2.out.size hga3
          have B3 := Lib.hid (B2.out.trans (hba3.mono B2.out.size))
          have z3_f := Lib.hid (hz2.out.below hba3)
          refine hK.out _ _ (Lib.hid (hSB.out _ B3.out)).out (fun hHeld => ?_)
          try simp only [Act.put, List.setIfInBounds_toArray, List.set_cons_zero, List.set_cons_succ]
          clear hK K
          clear hHeld
          refine wpAnyH_ready (rs := [5]) (by kernel_rfl) (by simp) ?_
          refine AllReadyH.cons rfl (fun K hK => ?_) AllReadyH.nil
          rw [if_pos (by rfl)]
          go_simp
          go_at_call 21
          refine (hS2.out _ B3.out).mono ?_
          rintro e U4 ⟨rfl, hba4⟩
          have B4 := Lib.hid (B3.out.trans (hba4.mono B3.out.size))
          have z4_f := Lib.hid (z3_f.out.below hba4)
          have z4_d := Lib.hid (hz3.out.below hba4)
          refine hK.out _ _ (Lib.hid (hSB.out _ B4.out)).out (fun hHeld => ?_)
          try simp only [Act.put, List.setIfInBounds_toArray, List.set_cons_zero, List.set_cons_succ]
          clear hK K
          clear hHeld
          refine wpAnyH_ready (rs := [8]) (by kernel_rfl) (by simp) ?_
          refine AllReadyH.cons rfl (fun K hK => ?_) AllReadyH.nil
          rw [if_pos (by rfl)]
          refine dg_op (.tmp 16) (.tmp 21) rfl ga3 _ _ z4_d.out (by simp) (sha_len _) rfl rfl ?_
          rintro U5 hd5 hc5
          have B5 := Lib.hid (Chg.below B4.out B4.out.size ge3 hc5)
          have z5_f := Lib.hid (Dg.other z4_f.out hc5 ne3_f)
          refine hK.out _ _ (Lib.hid (hSB.out _ B5.out)).out (fun hHeld => ?_)
          try simp only [Act.put, List.setIfInBounds_toArray, List.set_cons_zero, List.set_cons_succ]
          clear hK K
          clear hHeld
          refine wpAnyH_ready (rs := [9]) (by kernel_rfl) (by simp) ?_
          refine AllReadyH.cons rfl (fun K hK => ?_) AllReadyH.nil
          rw [if_pos (by rfl)]
          refine dg_op (.tmp 17) (.tmp 24) rfl ga2 _ _ z5_f.out (by simp) (sha_len _) rfl rfl ?_
          rintro U6 hd6 hc6
          have B6 := Lib.hid (Chg.below B5.out B5.out.size ge2 hc6)
          have z6_d := Lib.hid (Dg.other hd5.out hc6 ne3_f.symm)
          refine hK.out _ _ (Lib.hid (hSB.out _ B6.out)).out (fun hHeld => ?_)
          try simp only [Act.put, List.setIfInBounds_toArray, List.set_cons_zero, List.set_cons_succ]
          clear hK K
          clear hHeld
          refine wpAnyH_done (by kernel_rfl) ?_ _
          go_wp2_with fail
          go_meet
          case rel => exact ⟨ga3, ga2, rfl, rfl, ne3_f.symm, ge3, ge2, z6_d, hd6, B6⟩
    · rw [if_pos (by rfl)]
      refine al_op rfl rfl ?_
      rintro U1 ga1 hba1 hga1 hz1
      have ge1 := Nat.le_trans B0.out.size hga1
      have B1 := Lib.hid (B0.out.trans (hba1.mono B0.out.size))
      refine hK.out _ _ (Lib.hid (hSB.out _ B1.out)).out (fun hHeld => ?_)
      try simp only [Act.put, List.setIfInBounds_toArray, List.set_cons_zero, List.set_cons_succ]
      clear hK K
      clear hHeld
      refine wpAnyH_ready (rs := [2, 7]) (by kernel_rfl) (by simp) ?_
      refine AllReadyH.cons rfl (fun K hK => ?_) (AllReadyH.cons rfl (fun K hK => ?_) AllReadyH.nil)
      · rw [if_pos (by rfl)]
        go_simp
        go_at_call 21
        refine (hS1.out _ B1.out).mono ?_
        rintro e U2 ⟨rfl, hba2⟩
        have B2 := Lib.hid (B1.out.trans (hba2.mono B1.out.size))
        have z2_d := Lib.hid (hz1.out.below hba2)
        refine hK.out _ _ (Lib.hid (hSB.out _ B2.out)).out (fun hHeld => ?_)
        try simp only [Act.put, List.setIfInBounds_toArray, List.set_cons_zero, List.set_cons_succ]
        clear hK K
        clear hHeld
        refine wpAnyH_ready (rs := [5, 7]) (by kernel_rfl) (by simp) ?_
        refine AllReadyH.cons rfl (fun K hK => ?_) (AllReadyH.cons rfl (fun K hK => ?_) AllReadyH.nil)
        · rw [if_pos (by rfl)]
          go_simp
          go_at_call 21
          refine (hS2.out _ B2.out).mono ?_
          rintro e U3 ⟨rfl, hba3⟩
          have B3 := Lib.hid (B2.out.trans (hba3.mono B2.out.size))
          have z3_d := Lib.hid (z2_d.out.below hba3)
          refine hK.out _ _ (Lib.hid (hSB.out _ B3.out)).out (fun hHeld => ?_)
          try simp only [Act.put, List.setIfInBounds_toArray, List.set_cons_zero, List.set_cons_succ]
          clear hK K
          clear hHeld
          refine wpAnyH_ready (rs := [7]) (by kernel_rfl) (by simp) ?_
          refine AllReadyH.cons rfl (fun K hK => ?_) AllReadyH.nil
          rw [if_pos (by rfl)]
          refine al_op rfl rfl ?_
          rintro U4 ga4 hba4 hga4 hz4
          have ne4_d : ga1 ≠ ga4 := by have := z3_d.out.lt; omega
          have ge4 := Nat.le_trans B3.out.size hga4
          have B4 := Lib.hid (B3.out.trans (hba4.mono B3.out.size))
          have z4_d := Lib.hid (z3_d.out.below hba4)
          refine hK.out _ _ (Lib.hid (hSB.out _ B4.out)).out (fun hHeld => ?_)
          try simp only [Act.put, List.setIfInBounds_toArray, List.set_cons_zero, List.set_cons_succ]
          clear hK K
          clear hHeld
          refine wpAnyH_ready (rs := [8]) (by kernel_rfl) (by simp) ?_
          refine AllReadyH.cons rfl (fun K hK => ?_) AllReadyH.nil
          rw [if_pos (by rfl)]
          refine dg_op (.tmp 16) (.tmp 21) rfl ga1 _ _ z4_d.out (by simp) (sha_len _) rfl rfl ?_
          rintro U5 hd5 hc5
          have B5 := Lib.hid (Chg.below B4.out B4.out.size ge1 hc5)
          have z5_f := Lib.hid (Dg.other hz4.out hc5 ne4_d.symm)
          refine hK.out _ _ (Lib.hid (hSB.out _ B5.out)).out (fun hHeld => ?_)
          try simp only [Act.put, List.setIfInBounds_toArray, List.set_cons_zero, List.set_cons_succ]
          clear hK K
          clear hHeld
          refine wpAnyH_ready (rs := [9]) (by kernel_rfl) (by simp) ?_
          refine AllReadyH.cons rfl (fun K hK => ?_) AllReadyH.nil
          rw [if_pos (by rfl)]
          refine dg_op (.tmp 17) (.tmp 24) rfl ga4 _ _ z5_f.out (by simp) (sha_len _) rfl rfl ?_
          rintro U6 hd6 hc6
          have B6 := Lib.hid (Chg.below B5.out B5.out.size ge4 hc6)
          have z6_d := Lib.hid (Dg.other hd5.out hc6 ne4_d)
          refine hK.out _ _ (Lib.hid (hSB.out _ B6.out)).out (fun hHeld => ?_)
          try simp only [Act.put, List.setIfInBounds_toArray, List.set_cons_zero, List.set_cons_succ]
          clear hK K
          clear hHeld
          refine wpAnyH_done (by kernel_rfl) ?_ _
          go_wp2_with fail
          go_meet
          case rel => exact ⟨ga1, ga4, rfl, rfl, ne4_d, ge1, ge4, z6_d, hd6, B6⟩
        · rw [if_pos (by rfl)]
          refine al_op rfl rfl ?_
          rintro U3 ga3 hba3 hga3 hz3
          have ne3_d : ga1 ≠ ga3 := by have := z2_d.out.lt; omega
          have ge3 := Nat.le_trans B2.out.size hga3
          have B3 := Lib.hid (B2.out.trans (hba3.mono B2.out.size))
          have z3_d := Lib.hid (z2_d.out.below hba3)
          refine hK.out _ _ (Lib.hid (hSB.out _ B3.out)).out (fun hHeld => ?_)
          try simp only [Act.put, List.setIfInBounds_toArray, List.set_cons_zero, List.set_cons_succ]
          clear hK K
          clear hHeld
          refine wpAnyH_ready (rs := [5]) (by kernel_rfl) (by simp) ?_
          refine AllReadyH.cons rfl (fun K hK => ?_) AllReadyH.nil
          rw [if_pos (by rfl)]
          go_simp
          go_at_call 21
          refine (hS2.out _ B3.out).mono ?_
          rintro e U4 ⟨rfl, hba4⟩
          have B4 := Lib.hid (B3.out.trans (hba4.mono B3.out.size))
          have z4_d := Lib.hid (z3_d.out.below hba4)
          have z4_f := Lib.hid (hz3.out.below hba4)
          refine hK.out _ _ (Lib.hid (hSB.out _ B4.out)).out (fun hHeld => ?_)
          try simp only [Act.put, List.setIfInBounds_toArray, List.set_cons_zero, List.set_cons_succ]
          clear hK K
          clear hHeld
          refine wpAnyH_ready (rs := [8]) (by kernel_rfl) (by simp) ?_
          refine AllReadyH.cons rfl (fun K hK => ?_) AllReadyH.nil
          rw [if_pos (by rfl)]
          refine dg_op (.tmp 16) (.tmp 21) rfl ga1 _ _ z4_d.out (by simp) (sha_len _) rfl rfl ?_
          rintro U5 hd5 hc5
          have B5 := Lib.hid (Chg.below B4.out B4.out.size ge1 hc5)
          have z5_f := Lib.hid (Dg.other z4_f.out hc5 ne3_d.symm)
          refine hK.out _ _ (Lib.hid (hSB.out _ B5.out)).out (fun hHeld => ?_)
          try simp only [Act.put, List.setIfInBounds_toArray, List.set_cons_zero, List.set_cons_succ]
          clear hK K
          clear hHeld
          refine wpAnyH_ready (rs := [9]) (by kernel_rfl) (by simp) ?_
          refine AllReadyH.cons rfl (fun K hK => ?_) AllReadyH.nil
          rw [if_pos (by rfl)]
          refine dg_op (.tmp 17) (.tmp 24) rfl ga3 _ _ z5_f.out (by simp) (sha_len _) rfl rfl ?_
          rintro U6 hd6 hc6
          have B6 := Lib.hid (Chg.below B5.out B5.out.size ge3 hc6)
          have z6_d := Lib.hid (Dg.other hd5.out hc6 ne3_d)
          refine hK.out _ _ (Lib.hid (hSB.out _ B6.out)).out (fun hHeld => ?_)
          try simp only [Act.put, List.setIfInBounds_toArray, List.set_cons_zero, List.set_cons_succ]
          clear hK K
          clear hHeld
          refine wpAnyH_done (by kernel_rfl) ?_ _
          go_wp2_with fail
          go_meet
          case rel => exact ⟨ga1, ga3, rfl, rfl, ne3_d, ge1, ge3, z6_d, hd6, B6⟩
      · rw [if_pos (by rfl)]
        refine al_op rfl rfl ?_
        rintro U2 ga2 hba2 hga2 hz2
        have ne2_d : ga1 ≠ ga2 := by have := hz1.out.lt; omega
        have ge2 := Nat.le_trans B1.out.size hga2
        have B2 := Lib.hid (B1.out.trans (hba2.mono B1.out.size))
        have z2_d := Lib.hid (hz1.out.below hba2)
        refine hK.out _ _ (Lib.hid (hSB.out _ B2.out)).out (fun hHeld => ?_)
        try simp only [Act.put, List.setIfInBounds_toArray, List.set_cons_zero, List.set_cons_succ]
        clear hK K
        clear hHeld
        refine wpAnyH_ready (rs := [2]) (by kernel_rfl) (by simp) ?_
        refine AllReadyH.cons rfl (fun K hK => ?_) AllReadyH.nil
        rw [if_pos (by rfl)]
        go_simp
        go_at_call 21
        refine (hS1.out _ B2.out).mono ?_
        rintro e U3 ⟨rfl, hba3⟩
        have B3 := Lib.hid (B2.out.trans (hba3.mono B2.out.size))
        have z3_d := Lib.hid (z2_d.out.below hba3)
        have z3_f := Lib.hid (hz2.out.below hba3)
        refine hK.out _ _ (Lib.hid (hSB.out _ B3.out)).out (fun hHeld => ?_)
        try simp only [Act.put, List.setIfInBounds_toArray, List.set_cons_zero, List.set_cons_succ]
        clear hK K
        clear hHeld
        refine wpAnyH_ready (rs := [5]) (by kernel_rfl) (by simp) ?_
        refine AllReadyH.cons rfl (fun K hK => ?_) AllReadyH.nil
        rw [if_pos (by rfl)]
        go_simp
        go_at_call 21
        refine (hS2.out _ B3.out).mono ?_
        rintro e U4 ⟨rfl, hba4⟩
        have B4 := Lib.hid (B3.out.trans (hba4.mono B3.out.size))
        have z4_d := Lib.hid (z3_d.out.below hba4)
        have z4_f := Lib.hid (z3_f.out.below hba4)
        refine hK.out _ _ (Lib.hid (hSB.out _ B4.out)).out (fun hHeld => ?_)
        try simp only [Act.put, List.setIfInBounds_toArray, List.set_cons_zero, List.set_cons_succ]
        clear hK K
        clear hHeld
        refine wpAnyH_ready (rs := [8]) (by kernel_rfl) (by simp) ?_
        refine AllReadyH.cons rfl (fun K hK => ?_) AllReadyH.nil
        rw [if_pos (by rfl)]
        refine dg_op (.tmp 16) (.tmp 21) rfl ga1 _ _ z4_d.out (by simp) (sha_len _) rfl rfl ?_
        rintro U5 hd5 hc5
        have B5 := Lib.hid (Chg.below B4.out B4.out.size ge1 hc5)
        have z5_f := Lib.hid (Dg.other z4_f.out hc5 ne2_d.symm)
        refine hK.out _ _ (Lib.hid (hSB.out _ B5.out)).out (fun hHeld => ?_)
        try simp only [Act.put, List.setIfInBounds_toArray, List.set_cons_zero, List.set_cons_succ]
        clear hK K
        clear hHeld
        refine wpAnyH_ready (rs := [9]) (by kernel_rfl) (by simp) ?_
        refine AllReadyH.cons rfl (fun K hK => ?_) AllReadyH.nil
        rw [if_pos (by rfl)]
        refine dg_op (.tmp 17) (.tmp 24) rfl ga2 _ _ z5_f.out (by simp) (sha_len _) rfl rfl ?_
        rintro U6 hd6 hc6
        have B6 := Lib.hid (Chg.below B5.out B5.out.size ge2 hc6)
        have z6_d := Lib.hid (Dg.other hd5.out hc6 ne2_d)
        refine hK.out _ _ (Lib.hid (hSB.out _ B6.out)).out (fun hHeld => ?_)
        try simp only [Act.put, List.setIfInBounds_toArray, List.set_cons_zero, List.set_cons_succ]
        clear hK K
        clear hHeld
        refine wpAnyH_done (by kernel_rfl) ?_ _
        go_wp2_with fail
        go_meet
        case rel => exact ⟨ga1, ga2, rfl, rfl, ne2_d, ge1, ge2, z6_d, hd6, B6⟩
    · rw [if_pos (by rfl)]
      refine al_op rfl rfl ?_
      rintro U1 ga1 hba1 hga1 hz1
      have ge1 := Nat.le_trans B0.out.size hga1
      have B1 := Lib.hid (B0.out.trans (hba1.mono B0.out.size))
      refine hK.out _ _ (Lib.hid (hSB.out _ B1.out)).out (fun hHeld => ?_)
      try simp only [Act.put, List.setIfInBounds_toArray, List.set_cons_zero, List.set_cons_succ]
      clear hK K
      clear hHeld
      refine wpAnyH_ready (rs := [2, 6]) (by kernel_rfl) (by simp) ?_
      refine AllReadyH.cons rfl (fun K hK => ?_) (AllReadyH.cons rfl (fun K hK => ?_) AllReadyH.nil)
      · rw [if_pos (by rfl)]
        go_simp
        go_at_call 21
        refine (hS1.out _ B1.out).mono ?_
        rintro e U2 ⟨rfl, hba2⟩
        have B2 := Lib.hid (B1.out.trans (hba2.mono B1.out.size))
        have z2_f := Lib.hid (hz1.out.below hba2)
        refine hK.out _ _ (Lib.hid (hSB.out _ B2.out)).out (fun hHeld => ?_)
        try simp only [Act.put, List.setIfInBounds_toArray, List.set_cons_zero, List.set_cons_succ]
        clear hK K
        clear hHeld
        refine wpAnyH_ready (rs := [5, 6]) (by kernel_rfl) (by simp) ?_
        refine AllReadyH.cons rfl (fun K hK => ?_) (AllReadyH.cons rfl (fun K hK => ?_) AllReadyH.nil)
        · rw [if_pos (by rfl)]
          go_simp
          go_at_call 21
          refine (hS2.out _ B2.out).mono ?_
          rintro e U3 ⟨rfl, hba3⟩
          have B3 := Lib.hid (B2.out.trans (hba3.mono B2.out.size))
          have z3_f := Lib.hid (z2_f.out.below hba3)
          refine hK.out _ _ (Lib.hid (hSB.out _ B3.out)).out (fun hHeld => ?_)
          try simp only [Act.put, List.setIfInBounds_toArray, List.set_cons_zero, List.set_cons_succ]
          clear hK K
          clear hHeld
          refine wpAnyH_ready (rs := [6]) (by kernel_rfl) (by simp) ?_
          refine AllReadyH.cons rfl (fun K hK => ?_) AllReadyH.nil
          rw [if_pos (by rfl)]
          refine al_op rfl rfl ?_
          rintro U4 ga4 hba4 hga4 hz4
          have ne4_f : ga1 ≠ ga4 := by have := z3_f.out.lt; omega
          have ge4 := Nat.le_trans B3.out.size hga4
          have B4 := Lib.hid (B3.out.trans (hba4.mono B3.out.size))
          have z4_f := Lib.hid (z3_f.out.below hba4)
          refine hK.out _ _ (Lib.hid (hSB.out _ B4.out)).out (fun hHeld => ?_)
          try simp only [Act.put, List.setIfInBounds_toArray, List.set_cons_zero, List.set_cons_succ]
          clear hK K
          clear hHeld
          refine wpAnyH_ready (rs := [8]) (by kernel_rfl) (by simp) ?_
          refine AllReadyH.cons rfl (fun K hK => ?_) AllReadyH.nil
          rw [if_pos (by rfl)]
          refine dg_op (.tmp 16) (.tmp 21) rfl ga4 _ _ hz4.out (by simp) (sha_len _) rfl rfl ?_
          rintro U5 hd5 hc5
          have B5 := Lib.hid (Chg.below B4.out B4.out.size ge4 hc5)
          have z5_f := Lib.hid (Dg.other z4_f.out hc5 ne4_f)
          refine hK.out _ _ (Lib.hid (hSB.out _ B5.out)).out (fun hHeld => ?_)
          try simp only [Act.put, List.setIfInBounds_toArray, List.set_cons_zero, List.set_cons_succ]
          clear hK K
          clear hHeld
          refine wpAnyH_ready (rs := [9]) (by kernel_rfl) (by simp) ?_
          refine AllReadyH.cons rfl (fun K hK => ?_) AllReadyH.nil
          rw [if_pos (by rfl)]
          refine dg_op (.tmp 17) (.tmp 24) rfl ga1 _ _ z5_f.out (by simp) (sha_len _) rfl rfl ?_
          rintro U6 hd6 hc6
          have B6 := Lib.hid (Chg.below B5.out B5.out.size ge1 hc6)
          have z6_d := Lib.hid (Dg.other hd5.out hc6 ne4_f.symm)
          refine hK.out _ _ (Lib.hid (hSB.out _ B6.out)).out (fun hHeld => ?_)
          try simp only [Act.put, List.setIfInBounds_toArray, List.set_cons_zero, List.set_cons_succ]
          clear hK K
          clear hHeld
          refine wpAnyH_done (by kernel_rfl) ?_ _
          go_wp2_with fail
          go_meet
          case rel => exact ⟨ga4, ga1, rfl, rfl, ne4_f.symm, ge4, ge1, z6_d, hd6, B6⟩
        · rw [if_pos (by rfl)]
          refine al_op rfl rfl ?_
          rintro U3 ga3 hba3 hga3 hz3
          have ne3_f : ga1 ≠ ga3 := by have := z2_f.out.lt; omega
          have ge3 := Nat.le_trans B2.out.size hga3
          have B3 := Lib.hid (B2.out.trans (hba3.mono B2.out.size))
          have z3_f := Lib.hid (z2_f.out.below hba3)
          refine hK.out _ _ (Lib.hid (hSB.out _ B3.out)).out (fun hHeld => ?_)
          try simp only [Act.put, List.setIfInBounds_toArray, List.set_cons_zero, List.set_cons_succ]
          clear hK K
          clear hHeld
          refine wpAnyH_ready (rs := [5]) (by kernel_rfl) (by simp) ?_
          refine AllReadyH.cons rfl (fun K hK => ?_) AllReadyH.nil
          rw [if_pos (by rfl)]
          go_simp
          go_at_call 21
          refine (hS2.out _ B3.out).mono ?_
          rintro e U4 ⟨rfl, hba4⟩
          have B4 := Lib.hid (B3.out.trans (hba4.mono B3.out.size))
          have z4_f := Lib.hid (z3_f.out.below hba4)
          have z4_d := Lib.hid (hz3.out.below hba4)
          refine hK.out _ _ (Lib.hid (hSB.out _ B4.out)).out (fun hHeld => ?_)
          try simp only [Act.put, List.setIfInBounds_toArray, List.set_cons_zero, List.set_cons_succ]
          clear hK K
          clear hHeld
          refine wpAnyH_ready (rs := [8]) (by kernel_rfl) (by simp) ?_
          refine AllReadyH.cons rfl (fun K hK => ?_) AllReadyH.nil
          rw [if_pos (by rfl)]
          refine dg_op (.tmp 16) (.tmp 21) rfl ga3 _ _ z4_d.out (by simp) (sha_len _) rfl rfl ?_
          rintro U5 hd5 hc5
          have B5 := Lib.hid (Chg.below B4.out B4.out.size ge3 hc5)
          have z5_f := Lib.hid (Dg.other z4_f.out hc5 ne3_f)
          refine hK.out _ _ (Lib.hid (hSB.out _ B5.out)).out (fun hHeld => ?_)
          try simp only [Act.put, List.setIfInBounds_toArray, List.set_cons_zero, List.set_cons_succ]
          clear hK K
          clear hHeld
          refine wpAnyH_ready (rs := [9]) (by kernel_rfl) (by simp) ?_
          refine AllReadyH.cons rfl (fun K hK => ?_) AllReadyH.nil
          rw [if_pos (by rfl)]
          refine dg_op (.tmp 17) (.tmp 24) rfl ga1 _ _ z5_f.out (by simp) (sha_len _) rfl rfl ?_
          rintro U6 hd6 hc6
          have B6 := Lib.hid (Chg.below B5.out B5.out.size ge1 hc6)
          have z6_d := Lib.hid (Dg.other hd5.out hc6 ne3_f.symm)
          refine hK.out _ _ (Lib.hid (hSB.out _ B6.out)).out (fun hHeld => ?_)
          try simp only [Act.put, List.setIfInBounds_toArray, List.set_cons_zero, List.set_cons_succ]
          clear hK K
          clear hHeld
          refine wpAnyH_done (by kernel_rfl) ?_ _
          go_wp2_with fail
          go_meet
          case rel => exact ⟨ga3, ga1, rfl, rfl, ne3_f.symm, ge3, ge1, z6_d, hd6, B6⟩
      · rw [if_pos (by rfl)]
        refine al_op rfl rfl ?_
        rintro U2 ga2 hba2 hga2 hz2
        have ne2_f : ga1 ≠ ga2 := by have := hz1.out.lt; omega
        have ge2 := Nat.le_trans B1.out.size hga2
        have B2 := Lib.hid (B1.out.trans (hba2.mono B1.out.size))
        have z2_f := Lib.hid (hz1.out.below hba2)
        refine hK.out _ _ (Lib.hid (hSB.out _ B2.out)).out (fun hHeld => ?_)
        try simp only [Act.put, List.setIfInBounds_toArray, List.set_cons_zero, List.set_cons_succ]
        clear hK K
        clear hHeld
        refine wpAnyH_ready (rs := [2]) (by kernel_rfl) (by simp) ?_
        refine AllReadyH.cons rfl (fun K hK => ?_) AllReadyH.nil
        rw [if_pos (by rfl)]
        go_simp
        go_at_call 21
        refine (hS1.out _ B2.out).mono ?_
        rintro e U3 ⟨rfl, hba3⟩
        have B3 := Lib.hid (B2.out.trans (hba3.mono B2.out.size))
        have z3_f := Lib.hid (z2_f.out.below hba3)
        have z3_d := Lib.hid (hz2.out.below hba3)
        refine hK.out _ _ (Lib.hid (hSB.out _ B3.out)).out (fun hHeld => ?_)
        try simp only [Act.put, List.setIfInBounds_toArray, List.set_cons_zero, List.set_cons_succ]
        clear hK K
        clear hHeld
        refine wpAnyH_ready (rs := [5]) (by kernel_rfl) (by simp) ?_
        refine AllReadyH.cons rfl (fun K hK => ?_) AllReadyH.nil
        rw [if_pos (by rfl)]
        go_simp
        go_at_call 21
        refine (hS2.out _ B3.out).mono ?_
        rintro e U4 ⟨rfl, hba4⟩
        have B4 := Lib.hid (B3.out.trans (hba4.mono B3.out.size))
        have z4_f := Lib.hid (z3_f.out.below hba4)
        have z4_d := Lib.hid (z3_d.out.below hba4)
        refine hK.out _ _ (Lib.hid (hSB.out _ B4.out)).out (fun hHeld => ?_)
        try simp only [Act.put, List.setIfInBounds_toArray, List.set_cons_zero, List.set_cons_succ]
        clear hK K
        clear hHeld
        refine wpAnyH_ready (rs := [8]) (by kernel_rfl) (by simp) ?_
        refine AllReadyH.cons rfl (fun K hK => ?_) AllReadyH.nil
        rw [if_pos (by rfl)]
        refine dg_op (.tmp 16) (.tmp 21) rfl ga2 _ _ z4_d.out (by simp) (sha_len _) rfl rfl ?_
        rintro U5 hd5 hc5
        have B5 := Lib.hid (Chg.below B4.out B4.out.size ge2 hc5)
        have z5_f := Lib.hid (Dg.other z4_f.out hc5 ne2_f)
        refine hK.out _ _ (Lib.hid (hSB.out _ B5.out)).out (fun hHeld => ?_)
        try simp only [Act.put, List.setIfInBounds_toArray, List.set_cons_zero, List.set_cons_succ]
        clear hK K
        clear hHeld
        refine wpAnyH_ready (rs := [9]) (by kernel_rfl) (by simp) ?_
        refine AllReadyH.cons rfl (fun K hK => ?_) AllReadyH.nil
        rw [if_pos (by rfl)]
        refine dg_op (.tmp 17) (.tmp 24) rfl ga1 _ _ z5_f.out (by simp) (sha_len _) rfl rfl ?_
        rintro U6 hd6 hc6
        have B6 := Lib.hid (Chg.below B5.out B5.out.size ge1 hc6)
        have z6_d := Lib.hid (Dg.other hd5.out hc6 ne2_f.symm)
        refine hK.out _ _ (Lib.hid (hSB.out _ B6.out)).out (fun hHeld => ?_)
        try simp only [Act.put, List.setIfInBounds_toArray, List.set_cons_zero, List.set_cons_succ]
        clear hK K
        clear hHeld
        refine wpAnyH_done (by kernel_rfl) ?_ _
        go_wp2_with fail
        go_meet
        case rel => exact ⟨ga2, ga1, rfl, rfl, ne2_f.symm, ge2, ge1, z6_d, hd6, B6⟩
  case rest =>
    obtain ⟨gd, gf, rfl, rfl, hne, hgd, hgf, HD, HF, HBc⟩ := hcut
    have hbc := HBc.out.size
    clear hS1 hS2 S0 B0 hSB
    gi_wp2
    refine wpIn_label ?_
    gi_wp2_with (refine ⟨trivial, ?_⟩; gi_at_call 40; refine (steps_mk _ _ _ _).mono ?_; rintro e w' ⟨rfl, rfl⟩)
    obtain ⟨W1, hW1, hsz1, hB1, hbx⟩ := cm_world1 wc n i
    rw [hW1]
    clear hW1
    have hBw : Below W0.heap.size W0 W1 := HBc.out.trans (hB1.mono HBc.out.size)
    have hBW : Below w.heap.size w W1 := HB0.out.trans (hBw.mono HB0.out.size)
    have hg1 := HD.out.lt
    have hg2 := HF.out.lt
    have hL : LayF w W1 b1 b2 b3 b4 gd gf (wc.heap.size + 1) wc.heap.size := by constructor <;> omega
    have hP0 : FJ w W1 b1 b2 b3 b4 gd gf (wc.heap.size + 1) wc.heap.size i n (ta, p) (tb, q) 0 W1 :=
      ⟨⟨(hBw.cell (p := ⟨w.heap.size, 0, none⟩) (by simp only; omega)).trans k0, ⟨_, o1.below hBw, Lib.hid (BX.old HU.out hBW)⟩, ⟨_, o2.below hBw, Lib.hid (BX.old HV.out hBW)⟩, ⟨_, o3.below hBw, HX⟩, ⟨_, o4.below hBw, HY⟩, HD.out.below hB1, HF.out.below hB1, hbx, hBW, Nat.le_refl _⟩, fun j hj => absurd hj (Nat.not_lt_zero j)⟩
    have hwW : w.heap.size ≤ W1.heap.size := by omega
    clear hbx k0 o1 o2 o3 o4 hB1 hKW HD HF hB0 HBc
    refine wpIn_range (w := W1) rfl (by omega) (gf := 54) (lb := #[.pointer (some ⟨wc.heap.size + 1, 0, none⟩), .pointer (some ⟨wc.heap.size, 0, none⟩)]) rfl trivial (enters_of Tryd.func54 (by kernel_rfl) rfl) (steps_in 2 (by omega) (wc.heap.size + 1) wc.heap.size i n hn (by omega)) (fun _ => rfl)
      (FJ w W1 b1 b2 b3 b4 gd gf (wc.heap.size + 1) wc.heap.size i n (ta, p) (tb, q)) (FX w W1 b1 b2 b3 b4 gd gf (wc.heap.size + 1) wc.heap.size i n (ta, p) (tb, q)) (FJ.own _ _ _ _ _ _ _ _ _ _ _ _ hwW) (FX.own _ _ _ _ _ _ _ _ _ _ _ _ hwW) (fun k V h => h.1.b) hP0
      (fun z a' V => ∃ Bx, W1.heap.size ≤ Bx ∧ V.cell? ⟨Bx, 0, none⟩ = some (.int .i64 (z.1 : Int)) ∧ V.cell? ⟨Bx, 1, none⟩ = some (.int .i64 (z.2 : Int)) ∧ a' = { tmps := #[hv, .int .i64 (n : Int), .int .i64 (i : Int), .slice p1 ta.length c1, .slice p2 tb.length c2, .slice p3 p.length c3, .slice p4 q.length c4, .pointer (some ⟨w.heap.size, 0, none⟩), undef, undef, .pointer (some ⟨b1, 0, none⟩), .pointer (some ⟨b2, 0, none⟩), .pointer (some ⟨b3, 0, none⟩), .pointer (some ⟨b4, 0, none⟩), .slice none 0 0, .slice none 0 0, .pointer (some ⟨gd, 0, none⟩), .pointer (some ⟨gf, 0, none⟩), .pointer (some ⟨Bx, 0, none⟩), u19, u20, u21, u22, u23, u24, .int .i64 (n : Int), .int .i64 (i : Int), .func (.func 54) #[] #[.pointer (some ⟨wc.heap.size + 1, 0, none⟩), .pointer (some ⟨wc.heap.size, 0, none⟩)], stv z.1 z.2, undef, undef, undef, undef, undef, undef, undef, undef, undef, undef, undef, undef, undef, undef, undef, undef, undef, undef, undef, undef, undef, undef, undef, undef, undef, undef, undef, undef, undef, undef, undef], defers := [] })
      (fun z a' _ A V row hs hg hr => by obtain ⟨Bx, e1, e2, e3, e4⟩ := hs; exact ⟨Bx, e1, own_cell e2 hg hr, own_cell e3 hg hr, e4⟩)
      ?assign ?body ?done ?stop
    case assign =>
      rintro l k z V K hz hVs hP hK
      gi_wp2
      exact hK _ _ ((KeepsOthers.alloc _ _).from _) ⟨hP.1.later hL (one_new _ _), hP.2⟩ ⟨V.heap.size, by omega, by go_simp, by go_simp, rfl⟩
    case body =>
      rintro l k ⟨a, s⟩ a' V hVs hz ⟨hP, hJ⟩ ⟨Bx, hBx, c0, c1', rfl⟩
      obtain ⟨ha, hs, _, has⟩ := steps_at n i k a s hz
      have ha2 : a < 65536 := by omega
      have hzl := (List.getElem?_eq_some_iff.1 hz).1
      simp only at c0 c1'
      obtain ⟨⟨xa, ra⟩, hEA⟩ : ∃ y, tsL (stepsL i n) k (ta, p) = y := ⟨_, rfl⟩
      obtain ⟨⟨xb, rb⟩, hEB⟩ : ∃ y, tsL (stepsL i n) k (tb, q) = y := ⟨_, rfl⟩
      have hP' := hP
      have HEA := Lib.hid hEA
      have HEB := Lib.hid hEB
      rw [hEA, hEB] at hP'
      simp only at hP'
      have hdA := hP'.d
      have hdB := hP'.f
      have hlA := sha_len xa
      have hlB := sha_len xb
      have hEQ := fun (U : World) => dg_equal _ _ hlA hlB U
      have HJ := Lib.hid hJ
      have HZ := Lib.hid hz
      by_cases heq : sha xa = sha xb
      · have hbq : (sha xa == sha xb) = true := by rw [heq]; exact beq_self_eq_true _
        rw [hbq] at hEQ
        have HQ := Lib.hid heq
        have HPP := Lib.hid hP
        clear heq hbq hP' hP hJ hz
        generalize hga : sha xa = dA at *
        generalize hgb : sha xb = dB at *
        have HGA := Lib.hid hga
        have HGB := Lib.hid hgb
        clear hga hgb hEA hEB
        gi_wp2_with (first
          | refine dgIn_load rfl (.tmp 16) rfl gd dA hdA hlA rfl ?_
          | refine dgIn_load rfl (.tmp 17) rfl gf dB hdB hlB rfl ?_)
        exact ⟨keeps_below (Below.refl _ _), rfl, k, hzl, ⟨HPP.out, HJ.out⟩, by rw [HEA.out, HEB.out]; show sha xa = sha xb; rw [HGA.out, HGB.out]; exact HQ.out⟩
      · have hbq : (sha xa == sha xb) = false := by simpa using heq
        rw [hbq] at hEQ
        have HC := Lib.hid (alone_any a s V ha2)
        have HQ := Lib.hid heq
        have hJ1 : ∀ j, j < k + 1 → sha (tsL (stepsL i n) j (ta, p)).1 ≠ sha (tsL (stepsL i n) j (tb, q)).1 := fun j hj => by
          rcases Nat.lt_or_ge j k with h | h
          · exact hJ j h
          · obtain rfl : j = k := by omega
            rw [hEA, hEB]
            exact heq
        have HJ1 := Lib.hid hJ1
        have HP := Lib.hid hP'
        have hBx2 := World.block_lt_of_cell? V _ c0
        clear heq hbq hP' hP hJ hJ1 HJ
        cases hal : aloneB a s
        · rw [hal] at HC
          have hnA : tsL (stepsL i n) (k + 1) (ta, p) = (stepT a (sha xa) (ra.headD []), ra.tail) := by rw [ts_next hz, hEA]; unfold tst; rw [if_neg (by rw [hal]; simp)]
          have hnB : tsL (stepsL i n) (k + 1) (tb, q) = (stepT a (sha xb) (rb.headD []), rb.tail) := by rw [ts_next hz, hEB]; unfold tst; rw [if_neg (by rw [hal]; simp)]
          obtain ⟨qa, ra', hra, hqam⟩ := cs_more hz hal (sha ta, p) HPL.out.1
          obtain ⟨qb, rb', hrb, hqbm⟩ := cs_more hz hal (sha tb, q) HPL.out.2
          rw [ts_cs, hEA] at hra
          rw [ts_cs, hEB] at hrb
          simp only at hra hrb
          subst hra
          subst hrb
          have hqa := H32.out.1 qa hqam
          have hqb := H32.out.2 qb hqbm
          simp only [List.headD_cons, List.tail_cons] at hnA hnB
          obtain ⟨ua, xo, hxx⟩ := HP.out.x
          obtain ⟨ub, yo, hyy⟩ := HP.out.y
          obtain ⟨va, po, hpp⟩ := HP.out.p
          obtain ⟨vb, qo, hqq⟩ := HP.out.q
          obtain ⟨ba, ca, pa, rfl, ha1, ha22, _, ha4⟩ := hpp.out
          rcases ha4 with ha4 | ⟨oa, rfl, halt, hraa⟩
          · cases ha4
          obtain ⟨bb, cb, pb, rfl, hb1', hb22, _, hb4'⟩ := hqq.out
          rcases hb4' with hb4' | ⟨ob, rfl, hblt, hrbb⟩
          · cases hb4'
          rw [show fl (qa :: ra') = qa.map byt ++ fl ra' by simp [fl]] at hraa
          rw [show fl (qb :: rb') = qb.map byt ++ fl rb' by simp [fl]] at hrbb
          have hra1 := (range_append hraa).1
          have hra2 := (range_append hraa).2
          have hrb1 := (range_append hrbb).1
          have hrb2 := (range_append hrbb).2
          rw [List.length_map, hqa] at hra2
          rw [List.length_map, hqb] at hrb2
          obtain ⟨ma, hma⟩ : ∃ m, (qa :: ra').length = m := ⟨_, rfl⟩
          have hma1 : ra'.length + 1 = ma := hma
          rw [hma] at po ha1
          obtain ⟨mb, hmb⟩ : ∃ m, (qb :: rb').length = m := ⟨_, rfl⟩
          have hmb1 : rb'.length + 1 = mb := hmb
          rw [hmb] at qo hb1'
          have HNA := Lib.hid hnA
          have HNB := Lib.hid hnB
          clear hal hEA hEB hnA hnB hraa hrbb hma hmb hpp hqq hxx hyy HEA HEB
          generalize hga : sha xa = dA at *
          generalize hgb : sha xb = dB at *
          gi_wp2_with (first
            | refine dgIn_load rfl (.tmp 16) rfl gd dA hdA hlA rfl ?_
            | refine dgIn_load rfl (.tmp 17) rfl gf dB hdB hlB rfl ?_
            | (refine ⟨trivial, ?_⟩; gi_at_call 41; refine (CallsIn.inRound l (callsIn_wide.2 HC.out)).mono ?_; rintro e V2 ⟨rfl, hb2⟩))
          have HP2 := Lib.hid (HP.out.later hL hb2)
          have hVW := HP.out.size
          have hz2 := hb2.size
          have c0 := (hb2.cell (p := ⟨Bx, 0, none⟩) hBx2).trans c0
          have c1' := (hb2.cell (p := ⟨Bx, 1, none⟩) hBx2).trans c1'
          have po := po.below hb2
          have qo := qo.below hb2
          have xo := Lib.hid (xo.below hb2)
          have yo := Lib.hid (yo.below hb2)
          have hdA := dg_range (hdA.below hb2)
          have hdB := dg_range (hdB.below hb2)
          have hra3 : V2.rangeAt ba oa (qa.map byt) := fun j u hj => (World.cell?_of_block (w := w) (a := ⟨ba, oa + j, none⟩) ((HP2.out.below.block ba halt))).trans (hra1 j u hj)
          have hrb3 : V2.rangeAt bb ob (qb.map byt) := fun j u hj => (World.cell?_of_block (w := w) (a := ⟨bb, ob + j, none⟩) ((HP2.out.below.block bb hblt))).trans (hrb1 j u hj)
          have hBx3 : Bx < V2.heap.size := by omega
          have HL := Lib.hid hL
          have hgd2 := hL.d
          have hgf2 := hL.f
          have hSB : Hid (∀ U, Kp (fun k => k = b1 ∨ k = b2) V2 U → (U.cell? ⟨Bx, 0, none⟩ = some (.int .i64 (a : Int)) ∧ U.cell? ⟨Bx, 1, none⟩ = some (.int .i64 (s : Int))) ∧ (U.cell? ⟨b3, 0, none⟩ = some (.slice (some ⟨ba, oa, none⟩) ma ca) ∧ U.cell? ⟨b4, 0, none⟩ = some (.slice (some ⟨bb, ob, none⟩) mb cb)) ∧ (U.rangeAt gd 0 (dA.map byt) ∧ U.rangeAt gf 0 (dB.map byt)) ∧ (U.rangeAt ba oa (qa.map byt) ∧ U.rangeAt bb ob (qb.map byt))) := Lib.hid fun U hk =>
            ⟨⟨(hk.cell hBx3 (by omega)).trans c0, (hk.cell hBx3 (by omega)).trans c1'⟩, ⟨(hk.cell po.lt (by omega)).trans po.c, (hk.cell qo.lt (by omega)).trans qo.c⟩, ⟨range_kp hdA hk (by omega), range_kp hdB hk (by omega)⟩, ⟨range_kp hra3 hk (by omega), range_kp hrb3 hk (by omega)⟩⟩
          have hKB : Hid (∀ U, Below V2.heap.size V2 U → KOK U) := Lib.hid fun U hk => HK.out.below (HP2.out.below.trans (hk.mono HP2.out.below.size))
          have HTA : Hid (∀ U, Below V2.heap.size V2 U → Calls Tryd.prog 49 #[stv a s, dgv dA, dgv qa] U (TxtR (stepT a dA qa) U)) := Lib.hid fun U hk => stepT_any a s dA qa U ha2 hlA hqa (hKB.out U hk)
          have HTB : Hid (∀ U, Below V2.heap.size V2 U → Calls Tryd.prog 49 #[stv a s, dgv dB, dgv qb] U (TxtR (stepT a dB qb) U)) := Lib.hid fun U hk => stepT_any a s dB qb U ha2 hlB hqb (hKB.out U hk)
          have B0 : Hid (Below V2.heap.size V2 V2.drew) := Lib.hid (below_drew (Below.refl _ _))
          have S0 := Lib.hid (hSB.out _ (.of_below B0.out))
          have hpa : ∀ X Y : Nat, X + 1 = Y → (0 : Int) < (Y : Int) := fun X Y h => by omega
          have hma2 := hpa _ _ hma1
          have hmb2 := hpa _ _ hmb1
          have h21 : b2 ≠ b1 := by omega
          have hVW2 : W1.heap.size ≤ V2.heap.size := by omega
          clear c0 c1' po qo hdA hdB hra3 hrb3 hpa
          refine wpIn_only ?_
          refine region_round (S := fun U => (U.cell? ⟨Bx, 0, none⟩ = some (.int .i64 (a : Int)) ∧ U.cell? ⟨Bx, 1, none⟩ = some (.int .i64 (s : Int))) ∧ (U.cell? ⟨b3, 0, none⟩ = some (.slice (some ⟨ba, oa, none⟩) ma ca) ∧ U.cell? ⟨b4, 0, none⟩ = some (.slice (some ⟨bb, ob, none⟩) mb cb)) ∧ (U.rangeAt gd 0 (dA.map byt) ∧ U.rangeAt gf 0 (dB.map byt)) ∧ (U.rangeAt ba oa (qa.map byt) ∧ U.rangeAt bb ob (qb.map byt))) (by kernel_rfl) (by kernel_rfl) (fun ⟨_, _, h⟩ => h) S0.out (fun hHeld => ?_)
          refine take_at (i := 0) (k := 36) (v := stv a s) rfl rfl (by kernel_rfl) (by kernel_rfl) (by kernel_rfl) (fun _ _ _ h => h) (Or.inl ⟨by rfl, fun w' h => by have a0 := h.1.1; have a1 := h.1.2; go_simp⟩) hHeld ?_
          try simp only [Act.put, List.setIfInBounds_toArray, List.set_cons_zero, List.set_cons_succ]
          refine take_at (i := 1) (k := 37) (v := dgv dA) rfl rfl (by kernel_rfl) (by kernel_rfl) (by kernel_rfl) (fun _ _ _ h => h) (yieldsIf_load_mid (by rfl) 30 (.tmp 16) rfl gd 0 rfl (dA.map byt) _ (fun w' h => h.2.2.1.1) Tryd.underlying30 rfl (el_size hlA)) hHeld ?_
          try simp only [Act.put, List.setIfInBounds_toArray, List.set_cons_zero, List.set_cons_succ]
          refine take_at (i := 2) (k := 38) (v := .slice (some ⟨ba, oa, none⟩) ma ca) rfl rfl (by kernel_rfl) (by kernel_rfl) (by kernel_rfl) (fun _ _ _ h => h) (Or.inl ⟨by rfl, fun w' h => by have a0 := h.2.1.1; go_simp⟩) hHeld ?_
          try simp only [Act.put, List.setIfInBounds_toArray, List.set_cons_zero, List.set_cons_succ]
          refine take_at (i := 3) (k := 39) (v := .pointer (some ⟨ba, oa, none⟩)) rfl rfl (by kernel_rfl) (by kernel_rfl) (by kernel_rfl) (fun _ _ _ h => h) (Or.inl ⟨by rfl, fun w _ => by go_simp; intro h; omega⟩) hHeld ?_
          try simp only [Act.put, List.setIfInBounds_toArray, List.set_cons_zero, List.set_cons_succ]
          refine take_at (i := 4) (k := 40) (v := dgv qa) rfl rfl (by kernel_rfl) (by kernel_rfl) (by kernel_rfl) (fun _ _ _ h => h) (yieldsIf_load_mid (by rfl) 30 (.tmp 39) rfl ba oa rfl (qa.map byt) _ (fun w' h => h.2.2.2.1) Tryd.underlying30 rfl (el_size hqa)) hHeld ?_
          try simp only [Act.put, List.setIfInBounds_toArray, List.set_cons_zero, List.set_cons_succ]
          refine take_at (i := 6) (k := 42) (v := stv a s) rfl rfl (by kernel_rfl) (by kernel_rfl) (by kernel_rfl) (fun _ _ _ h => h) (Or.inl ⟨by rfl, fun w' h => by have a0 := h.1.1; have a1 := h.1.2; go_simp⟩) hHeld ?_
          try simp only [Act.put, List.setIfInBounds_toArray, List.set_cons_zero, List.set_cons_succ]
          refine take_at (i := 7) (k := 43) (v := dgv dB) rfl rfl (by kernel_rfl) (by kernel_rfl) (by kernel_rfl) (fun _ _ _ h => h) (yieldsIf_load_mid (by rfl) 30 (.tmp 17) rfl gf 0 rfl (dB.map byt) _ (fun w' h => h.2.2.1.2) Tryd.underlying30 rfl (el_size hlB)) hHeld ?_
          try simp only [Act.put, List.setIfInBounds_toArray, List.set_cons_zero, List.set_cons_succ]
          refine take_at (i := 8) (k := 44) (v := .slice (some ⟨bb, ob, none⟩) mb cb) rfl rfl (by kernel_rfl) (by kernel_rfl) (by kernel_rfl) (fun _ _ _ h => h) (Or.inl ⟨by rfl, fun w' h => by have a0 := h.2.1.2; go_simp⟩) hHeld ?_
          try simp only [Act.put, List.setIfInBounds_toArray, List.set_cons_zero, List.set_cons_succ]
          refine take_at (i := 9) (k := 45) (v := .pointer (some ⟨bb, ob, none⟩)) rfl rfl (by kernel_rfl) (by kernel_rfl) (by kernel_rfl) (fun _ _ _ h => h) (Or.inl ⟨by rfl, fun w _ => by go_simp; intro h; omega⟩) hHeld ?_
          try simp only [Act.put, List.setIfInBounds_toArray, List.set_cons_zero, List.set_cons_succ]
          refine take_at (i := 10) (k := 46) (v := dgv qb) rfl rfl (by kernel_rfl) (by kernel_rfl) (by kernel_rfl) (fun _ _ _ h => h) (yieldsIf_load_mid (by rfl) 30 (.tmp 45) rfl bb ob rfl (qb.map byt) _ (fun w' h => h.2.2.2.2) Tryd.underlying30 rfl (el_size hqb)) hHeld ?_
          try simp only [Act.put, List.setIfInBounds_toArray, List.set_cons_zero, List.set_cons_succ]
          clear hHeld
          refine wpAnyH_ready (rs := [5]) (by kernel_rfl) (by simp) ?_
          refine AllReadyH.cons rfl (fun K hK => ?_) AllReadyH.nil
          rw [if_pos (by rfl)]
          go_simp
          go_at_call 49
          refine (HTA.out _ B0.out).mono ?_
          rintro e U1 ⟨va1, rfl, hoa1, hna1, hba1⟩
          obtain ⟨pz1, mz1, cz1, rfl⟩ := own_slice hoa1.out
          have nw1 : ∀ k, Value.ownBlock (.slice pz1 mz1 cz1) = some k → V2.heap.size ≤ k := fun k e => Nat.le_trans B0.out.size (hna1 k e)
          have B1 := Lib.hid (B0.out.trans (hba1.mono B0.out.size))
          refine hK.out _ _ (Lib.hid (hSB.out _ (.of_below B1.out))).out (fun hHeld => ?_)
          try simp only [Act.put, List.setIfInBounds_toArray, List.set_cons_zero, List.set_cons_succ]
          clear hK K
          clear hHeld
          refine wpAnyH_ready (rs := [11]) (by kernel_rfl) (by simp) ?_
          refine AllReadyH.cons rfl (fun K hK => ?_) AllReadyH.nil
          rw [if_pos (by rfl)]
          go_simp
          go_at_call 49
          refine (HTB.out _ B1.out).mono ?_
          rintro e U2 ⟨va2, rfl, hoa2, hna2, hba2⟩
          obtain ⟨pz2, mz2, cz2, rfl⟩ := own_slice hoa2.out
          have nw2 : ∀ k, Value.ownBlock (.slice pz2 mz2 cz2) = some k → V2.heap.size ≤ k := fun k e => Nat.le_trans B1.out.size (hna2 k e)
          have B2 := Lib.hid (B1.out.trans (hba2.mono B1.out.size))
          have o2_a := Lib.hid (own_below hoa1.out hba2)
          refine hK.out _ _ (Lib.hid (hSB.out _ (.of_below B2.out))).out (fun hHeld => ?_)
          try simp only [Act.put, List.setIfInBounds_toArray, List.set_cons_zero, List.set_cons_succ]
          clear hK K
          clear hHeld
          refine wpAnyH_ready (rs := [12]) (by kernel_rfl) (by simp) ?_
          refine AllReadyH.cons rfl (fun K hK => ?_) AllReadyH.nil
          rw [if_pos (by rfl)]
          have q3 := (xo.out.below B2.out).c
          have p3 := (xo.out.below B2.out).f
          go_simp
          clear q3 p3
          have S3 := Lib.hid (hSB.out _ ((Kp.of_below B2.out).set (o := 0) (.inl rfl) (.slice pz1 mz1 cz1)))
          refine hK.out _ _ S3.out (fun hHeld => ?_)
          try simp only [Act.put, List.setIfInBounds_toArray, List.set_cons_zero, List.set_cons_succ]
          clear hK K
          clear hHeld
          refine wpAnyH_ready (rs := [13]) (by kernel_rfl) (by simp) ?_
          refine AllReadyH.cons rfl (fun K hK => ?_) AllReadyH.nil
          rw [if_pos (by rfl)]
          have q4 := ((yo.out.below B2.out).other h21 (.slice pz1 mz1 cz1)).c
          have p4 := ((yo.out.below B2.out).other h21 (.slice pz1 mz1 cz1)).f
          go_simp
          clear q4 p4
          have S4 := Lib.hid (hSB.out _ (((Kp.of_below B2.out).set (o := 0) (.inl rfl) (.slice pz1 mz1 cz1)).set (o := 0) (.inr rfl) (.slice pz2 mz2 cz2)))
          refine hK.out _ _ S4.out (fun hHeld => ?_)
          try simp only [Act.put, List.setIfInBounds_toArray, List.set_cons_zero, List.set_cons_succ]
          clear hK K
          clear hHeld
          refine wpAnyH_done (by kernel_rfl) ?_ _
          obtain ⟨hk6, hP6⟩ := (HP2.out.later HL.out B2.out).texts HL.out o2_a.out (fun k e => Nat.le_trans hVW2 (nw1 k e)) hoa2.out (fun k e => Nat.le_trans hVW2 (nw2 k e))
          have hk6' := ((Kp.of_below (G := GB w W1) hb2).next B2.out).trans hk6
          generalize (((U2.setCell ⟨b1, 0, none⟩ (.slice pz1 mz1 cz1)).setCell ⟨b2, 0, none⟩ (.slice pz2 mz2 cz2))) = V6 at *
          clear S0 B0 hSB hKB HTA HTB xo yo S3 S4 hk6
          have hP6' := hP6
          simp only at hP6'
          have HP6 := Lib.hid hP6'
          obtain ⟨ua6, xo6, hxx6⟩ := hP6'.x
          obtain ⟨ub6, yo6, hyy6⟩ := hP6'.y
          simp only at hxx6 hyy6
          obtain ⟨pu6, nu6, cu6, rfl⟩ := hxx6.out.slice
          obtain ⟨pv6, nv6, cv6, rfl⟩ := hyy6.out.slice
          have hh6 := hP6'.h
          have hz6 := hP6'.size
          have hw6 : w.heap.size < V6.heap.size := by omega
          have hSB7 : Hid (∀ U, Kp (fun k => k = gd ∨ k = gf) V6 U → U.cell? ⟨w.heap.size, 0, none⟩ = some hv ∧ U.cell? ⟨b1, 0, none⟩ = some (.slice pu6 nu6 cu6) ∧ U.cell? ⟨b2, 0, none⟩ = some (.slice pv6 nv6 cv6)) := Lib.hid fun U hk =>
            ⟨(hk.cell hw6 (by omega)).trans hh6, (hk.cell xo6.lt (by omega)).trans xo6.c, (hk.cell yo6.lt (by omega)).trans yo6.c⟩
          have hlt6 := stepT_len a hlA hqa
          have hlt7 := stepT_len a hlB hqb
          have hKB : Hid (∀ U, Below V6.heap.size V6 U → KOK U) := Lib.hid fun U hk => HK.out.below (HP6.out.below.trans (hk.mono HP6.out.below.size))
          have HSA : Hid (∀ U, Below V6.heap.size V6 U → Calls Tryd.prog 21 #[.slice pu6 nu6 cu6] U (ShaR (stepT a dA qa) U)) := Lib.hid fun U hk => sum_any _ _ U (hxx6.out.bv.below hk) (by rw [hlt6]; omega) (hKB.out U hk)
          have HSC : Hid (∀ U, Below V6.heap.size V6 U → Calls Tryd.prog 21 #[.slice pv6 nv6 cv6] U (ShaR (stepT a dB qb) U)) := Lib.hid fun U hk => sum_any _ _ U (hyy6.out.bv.below hk) (by rw [hlt7]; omega) (hKB.out U hk)
          have B0 : Hid (Below V6.heap.size V6 V6.drew) := Lib.hid (below_drew (Below.refl _ _))
          have S0 := Lib.hid (hSB7.out _ (.of_below B0.out))
          have hne2 := hL.ne
          clear hP6 hP6' xo6 yo6 hxx6 hyy6 hh6
          generalize hTA : stepT a dA qa = TA at *
          generalize hTB : stepT a dB qb = TB at *
          gi_wp2
          refine wpIn_only ?_
          refine region_round (S := fun U => U.cell? ⟨w.heap.size, 0, none⟩ = some hv ∧ U.cell? ⟨b1, 0, none⟩ = some (.slice pu6 nu6 cu6) ∧ U.cell? ⟨b2, 0, none⟩ = some (.slice pv6 nv6 cv6)) (by kernel_rfl) (by kernel_rfl) (fun ⟨_, _, h⟩ => h) S0.out (fun hHeld => ?_)
          refine take_at (i := 0) (k := 48) (v := hv) rfl rfl (by kernel_rfl) (by kernel_rfl) (by kernel_rfl) (fun _ _ _ h => h) (Or.inl ⟨by rfl, fun w' h => by have a0 := h.1; go_simp⟩) hHeld ?_
          try simp only [Act.put, List.setIfInBounds_toArray, List.set_cons_zero, List.set_cons_succ]
          refine take_at (i := 1) (k := 49) (v := .slice pu6 nu6 cu6) rfl rfl (by kernel_rfl) (by kernel_rfl) (by kernel_rfl) (fun _ _ _ h => h) (Or.inl ⟨by rfl, fun w' h => by have a0 := h.2.1; go_simp⟩) hHeld ?_
          try simp only [Act.put, List.setIfInBounds_toArray, List.set_cons_zero, List.set_cons_succ]
          refine take_at (i := 3) (k := 51) (v := hv) rfl rfl (by kernel_rfl) (by kernel_rfl) (by kernel_rfl) (fun _ _ _ h => h) (Or.inl ⟨by rfl, fun w' h => by have a0 := h.1; go_simp⟩) hHeld ?_
          try simp only [Act.put, List.setIfInBounds_toArray, List.set_cons_zero, List.set_cons_succ]
          refine take_at (i := 4) (k := 52) (v := .slice pv6 nv6 cv6) rfl rfl (by kernel_rfl) (by kernel_rfl) (by kernel_rfl) (fun _ _ _ h => h) (Or.inl ⟨by rfl, fun w' h => by have a0 := h.2.2; go_simp⟩) hHeld ?_
          try simp only [Act.put, List.setIfInBounds_toArray, List.set_cons_zero, List.set_cons_succ]
          clear hHeld
          refine wpAnyH_ready (rs := [2]) (by kernel_rfl) (by simp) ?_
          refine AllReadyH.cons rfl (fun K hK => ?_) AllReadyH.nil
          rw [if_pos (by rfl)]
          go_simp
          go_at_call 21
          refine (HSA.out _ B0.out).mono ?_
          rintro e U1 ⟨rfl, hba1⟩
          have B1 := Lib.hid (B0.out.trans (hba1.mono B0.out.size))
          refine hK.out _ _ (Lib.hid (hSB7.out _ (.of_below B1.out))).out (fun hHeld => ?_)
          try simp only [Act.put, List.setIfInBounds_toArray, List.set_cons_zero, List.set_cons_succ]
          clear hK K
          clear hHeld
          refine wpAnyH_ready (rs := [5]) (by kernel_rfl) (by simp) ?_
          refine AllReadyH.cons rfl (fun K hK => ?_) AllReadyH.nil
          rw [if_pos (by rfl)]
          go_simp
          go_at_call 21
          refine (HSC.out _ B1.out).mono ?_
          rintro e U2 ⟨rfl, hba2⟩
          have B2 := Lib.hid (B1.out.trans (hba2.mono B1.out.size))
          refine hK.out _ _ (Lib.hid (hSB7.out _ (.of_below B2.out))).out (fun hHeld => ?_)
          try simp only [Act.put, List.setIfInBounds_toArray, List.set_cons_zero, List.set_cons_succ]
          clear hK K
          clear hHeld
          refine wpAnyH_ready (rs := [6]) (by kernel_rfl) (by simp) ?_
          refine AllReadyH.cons rfl (fun K hK => ?_) AllReadyH.nil
          rw [if_pos (by rfl)]
          have zd := Lib.hid (HP6.out.d.below B2.out)
          have zf := Lib.hid (HP6.out.f.below B2.out)
          refine dg_op (.tmp 16) (.tmp 50) rfl gd dA _ zd.out hlA (sha_len _) rfl rfl ?_
          rintro U9 hd9 hc9
          have S9 := Lib.hid (hSB7.out _ ((Kp.of_below B2.out).chg hc9 (.inl (.inl rfl))))
          refine hK.out _ _ S9.out (fun hHeld => ?_)
          try simp only [Act.put, List.setIfInBounds_toArray, List.set_cons_zero, List.set_cons_succ]
          clear hK K
          clear hHeld
          refine wpAnyH_ready (rs := [7]) (by kernel_rfl) (by simp) ?_
          refine AllReadyH.cons rfl (fun K hK => ?_) AllReadyH.nil
          rw [if_pos (by rfl)]
          refine dg_op (.tmp 17) (.tmp 53) rfl gf dB _ (zf.out.other hc9 hne2.symm) hlB (sha_len _) rfl rfl ?_
          rintro V7 hd10 hc10
          have S10 := Lib.hid (hSB7.out _ (((Kp.of_below B2.out).chg hc9 (.inl (.inl rfl))).chg hc10 (.inl (.inr rfl))))
          refine hK.out _ _ S10.out (fun hHeld => ?_)
          try simp only [Act.put, List.setIfInBounds_toArray, List.set_cons_zero, List.set_cons_succ]
          clear hK K
          clear hHeld
          refine wpAnyH_done (by kernel_rfl) ?_ _
          obtain ⟨hk7, hP7⟩ := (HP6.out.later HL.out B2.out).digs HL.out hc9 hd9.out hc10 hd10.out
          have hk7' := (hk6'.next B2.out).trans hk7
          clear hc9 hd9 hc10 hd10 zd zf S9 S10 hk7
          clear S0 B0 hSB7 HSA HSC
          have HP7 := Lib.hid hP7
          obtain ⟨va7, po7', hpp7⟩ := hP7.p
          obtain ⟨vb7, qo7', hqq7⟩ := hP7.q
          simp only at hpp7 hqq7
          obtain ⟨ba7, oa7, ma7, ca7, rfl, hma7, hmc7, hcm7, _, _, hLA1, hLA2⟩ := ld_cons hpp7.out hqa
          obtain ⟨bb7, ob7, mb7, cb7, rfl, hmb7, hmd7, hcn7, _, _, hLB1, hLB2⟩ := ld_cons hqq7.out hqb
          have po7 := Lib.hid po7'
          have qo7 := Lib.hid qo7'
          have HMA := Lib.hid hLA1
          have HMA2 := Lib.hid hLA2
          have HMB := Lib.hid hLB1
          have HMB2 := Lib.hid hLB2
          have B0 : Hid (Below V7.heap.size V7 V7.drew) := Lib.hid (below_drew (Below.refl _ _))
          have h43 : b4 ≠ b3 := by omega
          have g1 : (1 : Int) ≤ (ma7 : Int) := by omega
          have g2 : (1 : Int) ≤ (mb7 : Int) := by omega
          have g3 : (ma7 : Int) ≤ (ca7 : Int) := by omega
          have g4 : (mb7 : Int) ≤ (cb7 : Int) := by omega
          clear hP7 po7' qo7' hpp7 hqq7 hLA1 hLA2 hLB1 hLB2
          gi_wp2
          refine region_round (S := fun _ => True) (by kernel_rfl) (by kernel_rfl) (fun ⟨_, _, h⟩ => h) trivial (fun hHeld => ?_)
          generalize V7.drew = V8 at *
          by_cases cc1 : ca7 = 1
          · by_cases cc2 : cb7 = 1
            · have hLa := Lib.hid (HMA.out cc1)
              have hLb := Lib.hid (HMB.out cc2)
              clear hHeld
              refine wpAnyH_ready (rs := [0, 2]) (by kernel_rfl) (by simp) ?_
              refine AllReadyH.cons rfl (fun K hK => ?_) (AllReadyH.cons rfl (fun K hK => ?_) AllReadyH.nil)
              · rw [if_pos (by rfl)]
                have q1 := (po7.out.below B0.out).c
                go_simp
                clear q1
                refine hK.out _ _ (Lib.hid trivial : Hid True).out (fun hHeld => ?_)
                try simp only [Act.put, List.setIfInBounds_toArray, List.set_cons_zero, List.set_cons_succ]
                clear hK K
                refine take_at (i := 1) (k := 55) (v := (.slice (some ⟨ba7, oa7, none⟩) (ma7 - 1) 0)) rfl rfl (by kernel_rfl) (by kernel_rfl) (by kernel_rfl) (fun _ _ _ h => h) (Or.inl ⟨by rfl, fun w _ => by go_simp⟩) hHeld ?_
                try simp only [Act.put, List.setIfInBounds_toArray, List.set_cons_zero, List.set_cons_succ]
                clear hHeld
                refine wpAnyH_ready (rs := [2, 4]) (by kernel_rfl) (by simp) ?_
                refine AllReadyH.cons rfl (fun K hK => ?_) (AllReadyH.cons rfl (fun K hK => ?_) AllReadyH.nil)
                · rw [if_pos (by rfl)]
                  have q2 := (qo7.out.below B0.out).c
                  go_simp
                  clear q2
                  refine hK.out _ _ (Lib.hid trivial : Hid True).out (fun hHeld => ?_)
                  try simp only [Act.put, List.setIfInBounds_toArray, List.set_cons_zero, List.set_cons_succ]
                  clear hK K
                  refine take_at (i := 3) (k := 57) (v := (.slice (some ⟨bb7, ob7, none⟩) (mb7 - 1) 0)) rfl rfl (by kernel_rfl) (by kernel_rfl) (by kernel_rfl) (fun _ _ _ h => h) (Or.inl ⟨by rfl, fun w _ => by go_simp⟩) hHeld ?_
                  try simp only [Act.put, List.setIfInBounds_toArray, List.set_cons_zero, List.set_cons_succ]
                  clear hHeld
                  refine wpAnyH_ready (rs := [4]) (by kernel_rfl) (by simp) ?_
                  refine AllReadyH.cons rfl (fun K hK => ?_) AllReadyH.nil
                  rw [if_pos (by rfl)]
                  have q3 := (po7.out.below B0.out).c
                  have p3 := (po7.out.below B0.out).f
                  go_simp
                  clear q3 p3
                  refine hK.out _ _ (Lib.hid trivial : Hid True).out (fun hHeld => ?_)
                  try simp only [Act.put, List.setIfInBounds_toArray, List.set_cons_zero, List.set_cons_succ]
                  clear hK K
                  clear hHeld
                  refine wpAnyH_ready (rs := [5]) (by kernel_rfl) (by simp) ?_
                  refine AllReadyH.cons rfl (fun K hK => ?_) AllReadyH.nil
                  rw [if_pos (by rfl)]
                  have q4 := ((qo7.out.below B0.out).other h43 (.slice (some ⟨ba7, oa7, none⟩) (ma7 - 1) 0)).c
                  have p4 := ((qo7.out.below B0.out).other h43 (.slice (some ⟨ba7, oa7, none⟩) (ma7 - 1) 0)).f
                  go_simp
                  clear q4 p4
                  refine hK.out _ _ (Lib.hid trivial : Hid True).out (fun hHeld => ?_)
                  try simp only [Act.put, List.setIfInBounds_toArray, List.set_cons_zero, List.set_cons_succ]
                  clear hK K
                  clear hHeld
                  refine wpAnyH_done (by kernel_rfl) ?_ _
                  obtain ⟨hk8, hP8⟩ := (HP7.out.later HL.out B0.out).paths HL.out hLa.out hLb.out
                  gi_wp2
                  refine ⟨by rw [← hsz1]; exact keeps_gb ((hk7'.next B0.out).trans hk8), ?_, HJ1.out⟩
                  rw [HNA.out, HNB.out]
                  exact hP8
                · rw [if_pos (by rfl)]
                  have q2 := (po7.out.below B0.out).c
                  have p2 := (po7.out.below B0.out).f
                  go_simp
                  clear q2 p2
                  refine hK.out _ _ (Lib.hid trivial : Hid True).out (fun hHeld => ?_)
                  try simp only [Act.put, List.setIfInBounds_toArray, List.set_cons_zero, List.set_cons_succ]
                  clear hK K
                  clear hHeld
                  refine wpAnyH_ready (rs := [2]) (by kernel_rfl) (by simp) ?_
                  refine AllReadyH.cons rfl (fun K hK => ?_) AllReadyH.nil
                  rw [if_pos (by rfl)]
                  have q3 := ((qo7.out.below B0.out).other h43 (.slice (some ⟨ba7, oa7, none⟩) (ma7 - 1) 0)).c
                  go_simp
                  clear q3
                  refine hK.out _ _ (Lib.hid trivial : Hid True).out (fun hHeld => ?_)
                  try simp only [Act.put, List.setIfInBounds_toArray, List.set_cons_zero, List.set_cons_succ]
                  clear hK K
                  refine take_at (i := 3) (k := 57) (v := (.slice (some ⟨bb7, ob7, none⟩) (mb7 - 1) 0)) rfl rfl (by kernel_rfl) (by kernel_rfl) (by kernel_rfl) (fun _ _ _ h => h) (Or.inl ⟨by rfl, fun w _ => by go_simp⟩) hHeld ?_
                  try simp only [Act.put, List.setIfInBounds_toArray, List.set_cons_zero, List.set_cons_succ]
                  clear hHeld
                  refine wpAnyH_ready (rs := [5]) (by kernel_rfl) (by simp) ?_
                  refine AllReadyH.cons rfl (fun K hK => ?_) AllReadyH.nil
                  rw [if_pos (by rfl)]
                  have q4 := ((qo7.out.below B0.out).other h43 (.slice (some ⟨ba7, oa7, none⟩) (ma7 - 1) 0)).c
                  have p4 := ((qo7.out.below B0.out).other h43 (.slice (some ⟨ba7, oa7, none⟩) (ma7 - 1) 0)).f
                  go_simp
                  clear q4 p4
                  refine hK.out _ _ (Lib.hid trivial : Hid True).out (fun hHeld => ?_)
                  try simp only [Act.put, List.setIfInBounds_toArray, List.set_cons_zero, List.set_cons_succ]
                  clear hK K
                  clear hHeld
                  refine wpAnyH_done (by kernel_rfl) ?_ _
                  obtain ⟨hk8, hP8⟩ := (HP7.out.later HL.out B0.out).paths HL.out hLa.out hLb.out
                  gi_wp2
                  refine ⟨by rw [← hsz1]; exact keeps_gb ((hk7'.next B0.out).trans hk8), ?_, HJ1.out⟩
                  rw [HNA.out, HNB.out]
                  exact hP8
              · rw [if_pos (by rfl)]
                have q1 := (qo7.out.below B0.out).c
                go_simp
                clear q1
                refine hK.out _ _ (Lib.hid trivial : Hid True).out (fun hHeld => ?_)
                try simp only [Act.put, List.setIfInBounds_toArray, List.set_cons_zero, List.set_cons_succ]
                clear hK K
                refine take_at (i := 3) (k := 57) (v := (.slice (some ⟨bb7, ob7, none⟩) (mb7 - 1) 0)) rfl rfl (by kernel_rfl) (by kernel_rfl) (by kernel_rfl) (fun _ _ _ h => h) (Or.inl ⟨by rfl, fun w _ => by go_simp⟩) hHeld ?_
                try simp only [Act.put, List.setIfInBounds_toArray, List.set_cons_zero, List.set_cons_succ]
                clear hHeld
                refine wpAnyH_ready (rs := [0]) (by kernel_rfl) (by simp) ?_
                refine AllReadyH.cons rfl (fun K hK => ?_) AllReadyH.nil
                rw [if_pos (by rfl)]
                have q2 := (po7.out.below B0.out).c
                go_simp
                clear q2
                refine hK.out _ _ (Lib.hid trivial : Hid True).out (fun hHeld => ?_)
                try simp only [Act.put, List.setIfInBounds_toArray, List.set_cons_zero, List.set_cons_succ]
                clear hK K
                refine take_at (i := 1) (k := 55) (v := (.slice (some ⟨ba7, oa7, none⟩) (ma7 - 1) 0)) rfl rfl (by kernel_rfl) (by kernel_rfl) (by kernel_rfl) (fun _ _ _ h => h) (Or.inl ⟨by rfl, fun w _ => by go_simp⟩) hHeld ?_
                try simp only [Act.put, List.setIfInBounds_toArray, List.set_cons_zero, List.set_cons_succ]
                clear hHeld
                refine wpAnyH_ready (rs := [4]) (by kernel_rfl) (by simp) ?_
                refine AllReadyH.cons rfl (fun K hK => ?_) AllReadyH.nil
                rw [if_pos (by rfl)]
                have q3 := (po7.out.below B0.out).c
                have p3 := (po7.out.below B0.out).f
                go_simp
                clear q3 p3
                refine hK.out _ _ (Lib.hid trivial : Hid True).out (fun hHeld => ?_)
                try simp only [Act.put, List.setIfInBounds_toArray, List.set_cons_zero, List.set_cons_succ]
                clear hK K
                clear hHeld
                refine wpAnyH_ready (rs := [5]) (by kernel_rfl) (by simp) ?_
                refine AllReadyH.cons rfl (fun K hK => ?_) AllReadyH.nil
                rw [if_pos (by rfl)]
                have q4 := ((qo7.out.below B0.out).other h43 (.slice (some ⟨ba7, oa7, none⟩) (ma7 - 1) 0)).c
                have p4 := ((qo7.out.below B0.out).other h43 (.slice (some ⟨ba7, oa7, none⟩) (ma7 - 1) 0)).f
                go_simp
                clear q4 p4
                refine hK.out _ _ (Lib.hid trivial : Hid True).out (fun hHeld => ?_)
                try simp only [Act.put, List.setIfInBounds_toArray, List.set_cons_zero, List.set_cons_succ]
                clear hK K
                clear hHeld
                refine wpAnyH_done (by kernel_rfl) ?_ _
                obtain ⟨hk8, hP8⟩ := (HP7.out.later HL.out B0.out).paths HL.out hLa.out hLb.out
                gi_wp2
                refine ⟨by rw [← hsz1]; exact keeps_gb ((hk7'.next B0.out).trans hk8), ?_, HJ1.out⟩
                rw [HNA.out, HNB.out]
                exact hP8
            · have hLa := Lib.hid (HMA.out cc1)
              have hLb := Lib.hid (HMB2.out cc2)
              clear hHeld
              refine wpAnyH_ready (rs := [0, 2]) (by kernel_rfl) (by simp) ?_
              refine AllReadyH.cons rfl (fun K hK => ?_) (AllReadyH.cons rfl (fun K hK => ?_) AllReadyH.nil)
              · rw [if_pos (by rfl)]
                have q1 := (po7.out.below B0.out).c
                go_simp
                clear q1
                refine hK.out _ _ (Lib.hid trivial : Hid True).out (fun hHeld => ?_)
                try simp only [Act.put, List.setIfInBounds_toArray, List.set_cons_zero, List.set_cons_succ]
                clear hK K
                refine take_at (i := 1) (k := 55) (v := (.slice (some ⟨ba7, oa7, none⟩) (ma7 - 1) 0)) rfl rfl (by kernel_rfl) (by kernel_rfl) (by kernel_rfl) (fun _ _ _ h => h) (Or.inl ⟨by rfl, fun w _ => by go_simp⟩) hHeld ?_
                try simp only [Act.put, List.setIfInBounds_toArray, List.set_cons_zero, List.set_cons_succ]
                clear hHeld
                refine wpAnyH_ready (rs := [2, 4]) (by kernel_rfl) (by simp) ?_
                refine AllReadyH.cons rfl (fun K hK => ?_) (AllReadyH.cons rfl (fun K hK => ?_) AllReadyH.nil)
                · rw [if_pos (by rfl)]
                  have q2 := (qo7.out.below B0.out).c
                  go_simp
                  clear q2
                  refine hK.out _ _ (Lib.hid trivial : Hid True).out (fun hHeld => ?_)
                  try simp only [Act.put, List.setIfInBounds_toArray, List.set_cons_zero, List.set_cons_succ]
                  clear hK K
                  refine take_at (i := 3) (k := 57) (v := (.slice (some ⟨bb7, ob7 + 32, none⟩) (mb7 - 1) (cb7 - 1))) rfl rfl (by kernel_rfl) (by kernel_rfl) (by kernel_rfl) (fun _ _ _ h => h) (Or.inl ⟨by rfl, fun w _ => by go_simp⟩) hHeld ?_
                  try simp only [Act.put, List.setIfInBounds_toArray, List.set_cons_zero, List.set_cons_succ]
                  clear hHeld
                  refine wpAnyH_ready (rs := [4]) (by kernel_rfl) (by simp) ?_
                  refine AllReadyH.cons rfl (fun K hK => ?_) AllReadyH.nil
                  rw [if_pos (by rfl)]
                  have q3 := (po7.out.below B0.out).c
                  have p3 := (po7.out.below B0.out).f
                  go_simp
                  clear q3 p3
                  refine hK.out _ _ (Lib.hid trivial : Hid True).out (fun hHeld => ?_)
                  try simp only [Act.put, List.setIfInBounds_toArray, List.set_cons_zero, List.set_cons_succ]
                  clear hK K
                  clear hHeld
                  refine wpAnyH_ready (rs := [5]) (by kernel_rfl) (by simp) ?_
                  refine AllReadyH.cons rfl (fun K hK => ?_) AllReadyH.nil
                  rw [if_pos (by rfl)]
                  have q4 := ((qo7.out.below B0.out).other h43 (.slice (some ⟨ba7, oa7, none⟩) (ma7 - 1) 0)).c
                  have p4 := ((qo7.out.below B0.out).other h43 (.slice (some ⟨ba7, oa7, none⟩) (ma7 - 1) 0)).f
                  go_simp
                  clear q4 p4
                  refine hK.out _ _ (Lib.hid trivial : Hid True).out (fun hHeld => ?_)
                  try simp only [Act.put, List.setIfInBounds_toArray, List.set_cons_zero, List.set_cons_succ]
                  clear hK K
                  clear hHeld
                  refine wpAnyH_done (by kernel_rfl) ?_ _
                  obtain ⟨hk8, hP8⟩ := (HP7.out.later HL.out B0.out).paths HL.out hLa.out hLb.out
                  gi_wp2
                  refine ⟨by rw [← hsz1]; exact keeps_gb ((hk7'.next B0.out).trans hk8), ?_, HJ1.out⟩
                  rw [HNA.out, HNB.out]
                  exact hP8
                · rw [if_pos (by rfl)]
                  have q2 := (po7.out.below B0.out).c
                  have p2 := (po7.out.below B0.out).f
                  go_simp
                  clear q2 p2
                  refine hK.out _ _ (Lib.hid trivial : Hid True).out (fun hHeld => ?_)
                  try simp only [Act.put, List.setIfInBounds_toArray, List.set_cons_zero, List.set_cons_succ]
                  clear hK K
                  clear hHeld
                  refine wpAnyH_ready (rs := [2]) (by kernel_rfl) (by simp) ?_
                  refine AllReadyH.cons rfl (fun K hK => ?_) AllReadyH.nil
                  rw [if_pos (by rfl)]
                  have q3 := ((qo7.out.below B0.out).other h43 (.slice (some ⟨ba7, oa7, none⟩) (ma7 - 1) 0)).c
                  go_simp
                  clear q3
                  refine hK.out _ _ (Lib.hid trivial : Hid True).out (fun hHeld => ?_)
                  try simp only [Act.put, List.setIfInBounds_toArray, List.set_cons_zero, List.set_cons_succ]
                  clear hK K
                  refine take_at (i := 3) (k := 57) (v := (.slice (some ⟨bb7, ob7 + 32, none⟩) (mb7 - 1) (cb7 - 1))) rfl rfl (by kernel_rfl) (by kernel_rfl) (by kernel_rfl) (fun _ _ _ h => h) (Or.inl ⟨by rfl, fun w _ => by go_simp⟩) hHeld ?_
                  try simp only [Act.put, List.setIfInBounds_toArray, List.set_cons_zero, List.set_cons_succ]
                  clear hHeld
                  refine wpAnyH_ready (rs := [5]) (by kernel_rfl) (by simp) ?_
                  refine AllReadyH.cons rfl (fun K hK => ?_) AllReadyH.nil
                  rw [if_pos (by rfl)]
                  have q4 := ((qo7.out.below B0.out).other h43 (.slice (some ⟨ba7, oa7, none⟩) (ma7 - 1) 0)).c
                  have p4 := ((qo7.out.below B0.out).other h43 (.slice (some ⟨ba7, oa7, none⟩) (ma7 - 1) 0)).f
                  go_simp
                  clear q4 p4
                  refine hK.out _ _ (Lib.hid trivial : Hid True).out (fun hHeld => ?_)
                  try simp only [Act.put, List.setIfInBounds_toArray, List.set_cons_zero, List.set_cons_succ]
                  clear hK K
                  clear hHeld
                  refine wpAnyH_done (by kernel_rfl) ?_ _
                  obtain ⟨hk8, hP8⟩ := (HP7.out.later HL.out B0.out).paths HL.out hLa.out hLb.out
                  gi_wp2
                  refine ⟨by rw [← hsz1]; exact keeps_gb ((hk7'.next B0.out).trans hk8), ?_, HJ1.out⟩
                  rw [HNA.out, HNB.out]
                  exact hP8
              · rw [if_pos (by rfl)]
                have q1 := (qo7.out.below B0.out).c
                go_simp
                clear q1
                refine hK.out _ _ (Lib.hid trivial : Hid True).out (fun hHeld => ?_)
                try simp only [Act.put, List.setIfInBounds_toArray, List.set_cons_zero, List.set_cons_succ]
                clear hK K
                refine take_at (i := 3) (k := 57) (v := (.slice (some ⟨bb7, ob7 + 32, none⟩) (mb7 - 1) (cb7 - 1))) rfl rfl (by kernel_rfl) (by kernel_rfl) (by kernel_rfl) (fun _ _ _ h => h) (Or.inl ⟨by rfl, fun w _ => by go_simp⟩) hHeld ?_
                try simp only [Act.put, List.setIfInBounds_toArray, List.set_cons_zero, List.set_cons_succ]
                clear hHeld
                refine wpAnyH_ready (rs := [0]) (by kernel_rfl) (by simp) ?_
                refine AllReadyH.cons rfl (fun K hK => ?_) AllReadyH.nil
                rw [if_pos (by rfl)]
                have q2 := (po7.out.below B0.out).c
                go_simp
                clear q2
                refine hK.out _ _ (Lib.hid trivial : Hid True).out (fun hHeld => ?_)
                try simp only [Act.put, List.setIfInBounds_toArray, List.set_cons_zero, List.set_cons_succ]
                clear hK K
                refine take_at (i := 1) (k := 55) (v := (.slice (some ⟨ba7, oa7, none⟩) (ma7 - 1) 0)) rfl rfl (by kernel_rfl) (by kernel_rfl) (by kernel_rfl) (fun _ _ _ h => h) (Or.inl ⟨by rfl, fun w _ => by go_simp⟩) hHeld ?_
                try simp only [Act.put, List.setIfInBounds_toArray, List.set_cons_zero, List.set_cons_succ]
                clear hHeld
                refine wpAnyH_ready (rs := [4]) (by kernel_rfl) (by simp) ?_
                refine AllReadyH.cons rfl (fun K hK => ?_) AllReadyH.nil
                rw [if_pos (by rfl)]
                have q3 := (po7.out.below B0.out).c
                have p3 := (po7.out.below B0.out).f
                go_simp
                clear q3 p3
                refine hK.out _ _ (Lib.hid trivial : Hid True).out (fun hHeld => ?_)
                try simp only [Act.put, List.setIfInBounds_toArray, List.set_cons_zero, List.set_cons_succ]
                clear hK K
                clear hHeld
                refine wpAnyH_ready (rs := [5]) (by kernel_rfl) (by simp) ?_
                refine AllReadyH.cons rfl (fun K hK => ?_) AllReadyH.nil
                rw [if_pos (by rfl)]
                have q4 := ((qo7.out.below B0.out).other h43 (.slice (some ⟨ba7, oa7, none⟩) (ma7 - 1) 0)).c
                have p4 := ((qo7.out.below B0.out).other h43 (.slice (some ⟨ba7, oa7, none⟩) (ma7 - 1) 0)).f
                go_simp
                clear q4 p4
                refine hK.out _ _ (Lib.hid trivial : Hid True).out (fun hHeld => ?_)
                try simp only [Act.put, List.setIfInBounds_toArray, List.set_cons_zero, List.set_cons_succ]
                clear hK K
                clear hHeld
                refine wpAnyH_done (by kernel_rfl) ?_ _
                obtain ⟨hk8, hP8⟩ := (HP7.out.later HL.out B0.out).paths HL.out hLa.out hLb.out
                gi_wp2
                refine ⟨by rw [← hsz1]; exact keeps_gb ((hk7'.next B0.out).trans hk8), ?_, HJ1.out⟩
                rw [HNA.out, HNB.out]
                exact hP8
          · by_cases cc2 : cb7 = 1
            · have hLa := Lib.hid (HMA2.out cc1)
              have hLb := Lib.hid (HMB.out cc2)
              clear hHeld
              refine wpAnyH_ready (rs := [0, 2]) (by kernel_rfl) (by simp) ?_
              refine AllReadyH.cons rfl (fun K hK => ?_) (AllReadyH.cons rfl (fun K hK => ?_) AllReadyH.nil)
              · rw [if_pos (by rfl)]
                have q1 := (po7.out.below B0.out).c
                go_simp
                clear q1
                refine hK.out _ _ (Lib.hid trivial : Hid True).out (fun hHeld => ?_)
                try simp only [Act.put, List.setIfInBounds_toArray, List.set_cons_zero, List.set_cons_succ]
                clear hK K
                refine take_at (i := 1) (k := 55) (v := (.slice (some ⟨ba7, oa7 + 32, none⟩) (ma7 - 1) (ca7 - 1))) rfl rfl (by kernel_rfl) (by kernel_rfl) (by kernel_rfl) (fun _ _ _ h => h) (Or.inl ⟨by rfl, fun w _ => by go_simp⟩) hHeld ?_
                try simp only [Act.put, List.setIfInBounds_toArray, List.set_cons_zero, List.set_cons_succ]
                clear hHeld
                refine wpAnyH_ready (rs := [2, 4]) (by kernel_rfl) (by simp) ?_
                refine AllReadyH.cons rfl (fun K hK => ?_) (AllReadyH.cons rfl (fun K hK => ?_) AllReadyH.nil)
                · rw [if_pos (by rfl)]
                  have q2 := (qo7.out.below B0.out).c
                  go_simp
                  clear q2
                  refine hK.out _ _ (Lib.hid trivial : Hid True).out (fun hHeld => ?_)
                  try simp only [Act.put, List.setIfInBounds_toArray, List.set_cons_zero, List.set_cons_succ]
                  clear hK K
                  refine take_at (i := 3) (k := 57) (v := (.slice (some ⟨bb7, ob7, none⟩) (mb7 - 1) 0)) rfl rfl (by kernel_rfl) (by kernel_rfl) (by kernel_rfl) (fun _ _ _ h => h) (Or.inl ⟨by rfl, fun w _ => by go_simp⟩) hHeld ?_
                  try simp only [Act.put, List.setIfInBounds_toArray, List.set_cons_zero, List.set_cons_succ]
                  clear hHeld
                  refine wpAnyH_ready (rs := [4]) (by kernel_rfl) (by simp) ?_
                  refine AllReadyH.cons rfl (fun K hK => ?_) AllReadyH.nil
                  rw [if_pos (by rfl)]
                  have q3 := (po7.out.below B0.out).c
                  have p3 := (po7.out.below B0.out).f
                  go_simp
                  clear q3 p3
                  refine hK.out _ _ (Lib.hid trivial : Hid True).out (fun hHeld => ?_)
                  try simp only [Act.put, List.setIfInBounds_toArray, List.set_cons_zero, List.set_cons_succ]
                  clear hK K
                  clear hHeld
                  refine wpAnyH_ready (rs := [5]) (by kernel_rfl) (by simp) ?_
                  refine AllReadyH.cons rfl (fun K hK => ?_) AllReadyH.nil
                  rw [if_pos (by rfl)]
                  have q4 := ((qo7.out.below B0.out).other h43 (.slice (some ⟨ba7, oa7 + 32, none⟩) (ma7 - 1) (ca7 - 1))).c
                  have p4 := ((qo7.out.below B0.out).other h43 (.slice (some ⟨ba7, oa7 + 32, none⟩) (ma7 - 1) (ca7 - 1))).f
                  go_simp
                  clear q4 p4
                  refine hK.out _ _ (Lib.hid trivial : Hid True).out (fun hHeld => ?_)
                  try simp only [Act.put, List.setIfInBounds_toArray, List.set_cons_zero, List.set_cons_succ]
                  clear hK K
                  clear hHeld
                  refine wpAnyH_done (by kernel_rfl) ?_ _
                  obtain ⟨hk8, hP8⟩ := (HP7.out.later HL.out B0.out).paths HL.out hLa.out hLb.out
                  gi_wp2
                  refine ⟨by rw [← hsz1]; exact keeps_gb ((hk7'.next B0.out).trans hk8), ?_, HJ1.out⟩
                  rw [HNA.out, HNB.out]
                  exact hP8
                · rw [if_pos (by rfl)]
                  have q2 := (po7.out.below B0.out).c
                  have p2 := (po7.out.below B0.out).f
                  go_simp
                  clear q2 p2
                  refine hK.out _ _ (Lib.hid trivial : Hid True).out (fun hHeld => ?_)
                  try simp only [Act.put, List.setIfInBounds_toArray, List.set_cons_zero, List.set_cons_succ]
                  clear hK K
                  clear hHeld
                  refine wpAnyH_ready (rs := [2]) (by kernel_rfl) (by simp) ?_
                  refine AllReadyH.cons rfl (fun K hK => ?_) AllReadyH.nil
                  rw [if_pos (by rfl)]
                  have q3 := ((qo7.out.below B0.out).other h43 (.slice (some ⟨ba7, oa7 + 32, none⟩) (ma7 - 1) (ca7 - 1))).c
                  go_simp
                  clear q3
                  refine hK.out _ _ (Lib.hid trivial : Hid True).out (fun hHeld => ?_)
                  try simp only [Act.put, List.setIfInBounds_toArray, List.set_cons_zero, List.set_cons_succ]
                  clear hK K
                  refine take_at (i := 3) (k := 57) (v := (.slice (some ⟨bb7, ob7, none⟩) (mb7 - 1) 0)) rfl rfl (by kernel_rfl) (by kernel_rfl) (by kernel_rfl) (fun _ _ _ h => h) (Or.inl ⟨by rfl, fun w _ => by go_simp⟩) hHeld ?_
                  try simp only [Act.put, List.setIfInBounds_toArray, List.set_cons_zero, List.set_cons_succ]
                  clear hHeld
                  refine wpAnyH_ready (rs := [5]) (by kernel_rfl) (by simp) ?_
                  refine AllReadyH.cons rfl (fun K hK => ?_) AllReadyH.nil
                  rw [if_pos (by rfl)]
                  have q4 := ((qo7.out.below B0.out).other h43 (.slice (some ⟨ba7, oa7 + 32, none⟩) (ma7 - 1) (ca7 - 1))).c
                  have p4 := ((qo7.out.below B0.out).other h43 (.slice (some ⟨ba7, oa7 + 32, none⟩) (ma7 - 1) (ca7 - 1))).f
                  go_simp
                  clear q4 p4
                  refine hK.out _ _ (Lib.hid trivial : Hid True).out (fun hHeld => ?_)
                  try simp only [Act.put, List.setIfInBounds_toArray, List.set_cons_zero, List.set_cons_succ]
                  clear hK K
                  clear hHeld
                  refine wpAnyH_done (by kernel_rfl) ?_ _
                  obtain ⟨hk8, hP8⟩ := (HP7.out.later HL.out B0.out).paths HL.out hLa.out hLb.out
                  gi_wp2
                  refine ⟨by rw [← hsz1]; exact keeps_gb ((hk7'.next B0.out).trans hk8), ?_, HJ1.out⟩
                  rw [HNA.out, HNB.out]
                  exact hP8
              · rw [if_pos (by rfl)]
                have q1 := (qo7.out.below B0.out).c
                go_simp
                clear q1
                refine hK.out _ _ (Lib.hid trivial : Hid True).out (fun hHeld => ?_)
                try simp only [Act.put, List.setIfInBounds_toArray, List.set_cons_zero, List.set_cons_succ]
                clear hK K
                refine take_at (i := 3) (k := 57) (v := (.slice (some ⟨bb7, ob7, none⟩) (mb7 - 1) 0)) rfl rfl (by kernel_rfl) (by kernel_rfl) (by kernel_rfl) (fun _ _ _ h => h) (Or.inl ⟨by rfl, fun w _ => by go_simp⟩) hHeld ?_
                try simp only [Act.put, List.setIfInBounds_toArray, List.set_cons_zero, List.set_cons_succ]
                clear hHeld
                refine wpAnyH_ready (rs := [0]) (by kernel_rfl) (by simp) ?_
                refine AllReadyH.cons rfl (fun K hK => ?_) AllReadyH.nil
                rw [if_pos (by rfl)]
                have q2 := (po7.out.below B0.out).c
                go_simp
                clear q2
                refine hK.out _ _ (Lib.hid trivial : Hid True).out (fun hHeld => ?_)
                try simp only [Act.put, List.setIfInBounds_toArray, List.set_cons_zero, List.set_cons_succ]
                clear hK K
                refine take_at (i := 1) (k := 55) (v := (.slice (some ⟨ba7, oa7 + 32, none⟩) (ma7 - 1) (ca7 - 1))) rfl rfl (by kernel_rfl) (by kernel_rfl) (by kernel_rfl) (fun _ _ _ h => h) (Or.inl ⟨by rfl, fun w _ => by go_simp⟩) hHeld ?_
                try simp only [Act.put, List.setIfInBounds_toArray, List.set_cons_zero, List.set_cons_succ]
                clear hHeld
                refine wpAnyH_ready (rs := [4]) (by kernel_rfl) (by simp) ?_
                refine AllReadyH.cons rfl (fun K hK => ?_) AllReadyH.nil
                rw [if_pos (by rfl)]
                have q3 := (po7.out.below B0.out).c
                have p3 := (po7.out.below B0.out).f
                go_simp
                clear q3 p3
                refine hK.out _ _ (Lib.hid trivial : Hid True).out (fun hHeld => ?_)
                try simp only [Act.put, List.setIfInBounds_toArray, List.set_cons_zero, List.set_cons_succ]
                clear hK K
                clear hHeld
                refine wpAnyH_ready (rs := [5]) (by kernel_rfl) (by simp) ?_
                refine AllReadyH.cons rfl (fun K hK => ?_) AllReadyH.nil
                rw [if_pos (by rfl)]
                have q4 := ((qo7.out.below B0.out).other h43 (.slice (some ⟨ba7, oa7 + 32, none⟩) (ma7 - 1) (ca7 - 1))).c
                have p4 := ((qo7.out.below B0.out).other h43 (.slice (some ⟨ba7, oa7 + 32, none⟩) (ma7 - 1) (ca7 - 1))).f
                go_simp
                clear q4 p4
                refine hK.out _ _ (Lib.hid trivial : Hid True).out (fun hHeld => ?_)
                try simp only [Act.put, List.setIfInBounds_toArray, List.set_cons_zero, List.set_cons_succ]
                clear hK K
                clear hHeld
                refine wpAnyH_done (by kernel_rfl) ?_ _
                obtain ⟨hk8, hP8⟩ := (HP7.out.later HL.out B0.out).paths HL.out hLa.out hLb.out
                gi_wp2
                refine ⟨by rw [← hsz1]; exact keeps_gb ((hk7'.next B0.out).trans hk8), ?_, HJ1.out⟩
                rw [HNA.out, HNB.out]
                exact hP8
            · have hLa := Lib.hid (HMA2.out cc1)
              have hLb := Lib.hid (HMB2.out cc2)
              clear hHeld
              refine wpAnyH_ready (rs := [0, 2]) (by kernel_rfl) (by simp) ?_
              refine AllReadyH.cons rfl (fun K hK => ?_) (AllReadyH.cons rfl (fun K hK => ?_) AllReadyH.nil)
              · rw [if_pos (by rfl)]
                have q1 := (po7.out.below B0.out).c
                go_simp
                clear q1
                refine hK.out _ _ (Lib.hid trivial : Hid True).out (fun hHeld => ?_)
                try simp only [Act.put, List.setIfInBounds_toArray, List.set_cons_zero, List.set_cons_succ]
                clear hK K
                refine take_at (i := 1) (k := 55) (v := (.slice (some ⟨ba7, oa7 + 32, none⟩) (ma7 - 1) (ca7 - 1))) rfl rfl (by kernel_rfl) (by kernel_rfl) (by kernel_rfl) (fun _ _ _ h => h) (Or.inl ⟨by rfl, fun w _ => by go_simp⟩) hHeld ?_
                try simp only [Act.put, List.setIfInBounds_toArray, List.set_cons_zero, List.set_cons_succ]
                clear hHeld
                refine wpAnyH_ready (rs := [2, 4]) (by kernel_rfl) (by simp) ?_
                refine AllReadyH.cons rfl (fun K hK => ?_) (AllReadyH.cons rfl (fun K hK => ?_) AllReadyH.nil)
                · rw [if_pos (by rfl)]
                  have q2 := (qo7.out.below B0.out).c
                  go_simp
                  clear q2
                  refine hK.out _ _ (Lib.hid trivial : Hid True).out (fun hHeld => ?_)
                  try simp only [Act.put, List.setIfInBounds_toArray, List.set_cons_zero, List.set_cons_succ]
                  clear hK K
                  refine take_at (i := 3) (k := 57) (v := (.slice (some ⟨bb7, ob7 + 32, none⟩) (mb7 - 1) (cb7 - 1))) rfl rfl (by kernel_rfl) (by kernel_rfl) (by kernel_rfl) (fun _ _ _ h => h) (Or.inl ⟨by rfl, fun w _ => by go_simp⟩) hHeld ?_
                  try simp only [Act.put, List.setIfInBounds_toArray, List.set_cons_zero, List.set_cons_succ]
                  clear hHeld
                  refine wpAnyH_ready (rs := [4]) (by kernel_rfl) (by simp) ?_
                  refine AllReadyH.cons rfl (fun K hK => ?_) AllReadyH.nil
                  rw [if_pos (by rfl)]
                  have q3 := (po7.out.below B0.out).c
                  have p3 := (po7.out.below B0.out).f
                  go_simp
                  clear q3 p3
                  refine hK.out _ _ (Lib.hid trivial : Hid True).out (fun hHeld => ?_)
                  try simp only [Act.put, List.setIfInBounds_toArray, List.set_cons_zero, List.set_cons_succ]
                  clear hK K
                  clear hHeld
                  refine wpAnyH_ready (rs := [5]) (by kernel_rfl) (by simp) ?_
                  refine AllReadyH.cons rfl (fun K hK => ?_) AllReadyH.nil
                  rw [if_pos (by rfl)]
                  have q4 := ((qo7.out.below B0.out).other h43 (.slice (some ⟨ba7, oa7 + 32, none⟩) (ma7 - 1) (ca7 - 1))).c
                  have p4 := ((qo7.out.below B0.out).other h43 (.slice (some ⟨ba7, oa7 + 32, none⟩) (ma7 - 1) (ca7 - 1))).f
                  go_simp
                  clear q4 p4
                  refine hK.out _ _ (Lib.hid trivial : Hid True).out (fun hHeld => ?_)
                  try simp only [Act.put, List.setIfInBounds_toArray, List.set_cons_zero, List.set_cons_succ]
                  clear hK K
                  clear hHeld
                  refine wpAnyH_done (by kernel_rfl) ?_ _
                  obtain ⟨hk8, hP8⟩ := (HP7.out.later HL.out B0.out).paths HL.out hLa.out hLb.out
                  gi_wp2
                  refine ⟨by rw [← hsz1]; exact keeps_gb ((hk7'.next B0.out).trans hk8), ?_, HJ1.out⟩
                  rw [HNA.out, HNB.out]
                  exact hP8
                · rw [if_pos (by rfl)]
                  have q2 := (po7.out.below B0.out).c
                  have p2 := (po7.out.below B0.out).f
                  go_simp
                  clear q2 p2
                  refine hK.out _ _ (Lib.hid trivial : Hid True).out (fun hHeld => ?_)
                  try simp only [Act.put, List.setIfInBounds_toArray, List.set_cons_zero, List.set_cons_succ]
                  clear hK K
                  clear hHeld
                  refine wpAnyH_ready (rs := [2]) (by kernel_rfl) (by simp) ?_
                  refine AllReadyH.cons rfl (fun K hK => ?_) AllReadyH.nil
                  rw [if_pos (by rfl)]
                  have q3 := ((qo7.out.below B0.out).other h43 (.slice (some ⟨ba7, oa7 + 32, none⟩) (ma7 - 1) (ca7 - 1))).c
                  go_simp
                  clear q3
                  refine hK.out _ _ (Lib.hid trivial : Hid True).out (fun hHeld => ?_)
                  try simp only [Act.put, List.setIfInBounds_toArray, List.set_cons_zero, List.set_cons_succ]
                  clear hK K
                  refine take_at (i := 3) (k := 57) (v := (.slice (some ⟨bb7, ob7 + 32, none⟩) (mb7 - 1) (cb7 - 1))) rfl rfl (by kernel_rfl) (by kernel_rfl) (by kernel_rfl) (fun _ _ _ h => h) (Or.inl ⟨by rfl, fun w _ => by go_simp⟩) hHeld ?_
                  try simp only [Act.put, List.setIfInBounds_toArray, List.set_cons_zero, List.set_cons_succ]
                  clear hHeld
                  refine wpAnyH_ready (rs := [5]) (by kernel_rfl) (by simp) ?_
                  refine AllReadyH.cons rfl (fun K hK => ?_) AllReadyH.nil
                  rw [if_pos (by rfl)]
                  have q4 := ((qo7.out.below B0.out).other h43 (.slice (some ⟨ba7, oa7 + 32, none⟩) (ma7 - 1) (ca7 - 1))).c
                  have p4 := ((qo7.out.below B0.out).other h43 (.slice (some ⟨ba7, oa7 + 32, none⟩) (ma7 - 1) (ca7 - 1))).f
                  go_simp
                  clear q4 p4
                  refine hK.out _ _ (Lib.hid trivial : Hid True).out (fun hHeld => ?_)
                  try simp only [Act.put, List.setIfInBounds_toArray, List.set_cons_zero, List.set_cons_succ]
                  clear hK K
                  clear hHeld
                  refine wpAnyH_done (by kernel_rfl) ?_ _
                  obtain ⟨hk8, hP8⟩ := (HP7.out.later HL.out B0.out).paths HL.out hLa.out hLb.out
                  gi_wp2
                  refine ⟨by rw [← hsz1]; exact keeps_gb ((hk7'.next B0.out).trans hk8), ?_, HJ1.out⟩
                  rw [HNA.out, HNB.out]
                  exact hP8
              · rw [if_pos (by rfl)]
                have q1 := (qo7.out.below B0.out).c
                go_simp
                clear q1
                refine hK.out _ _ (Lib.hid trivial : Hid True).out (fun hHeld => ?_)
                try simp only [Act.put, List.setIfInBounds_toArray, List.set_cons_zero, List.set_cons_succ]
                clear hK K
                refine take_at (i := 3) (k := 57) (v := (.slice (some ⟨bb7, ob7 + 32, none⟩) (mb7 - 1) (cb7 - 1))) rfl rfl (by kernel_rfl) (by kernel_rfl) (by kernel_rfl) (fun _ _ _ h => h) (Or.inl ⟨by rfl, fun w _ => by go_simp⟩) hHeld ?_
                try simp only [Act.put, List.setIfInBounds_toArray, List.set_cons_zero, List.set_cons_succ]
                clear hHeld
                refine wpAnyH_ready (rs := [0]) (by kernel_rfl) (by simp) ?_
                refine AllReadyH.cons rfl (fun K hK => ?_) AllReadyH.nil
                rw [if_pos (by rfl)]
                have q2 := (po7.out.below B0.out).c
                go_simp
                clear q2
                refine hK.out _ _ (Lib.hid trivial : Hid True).out (fun hHeld => ?_)
                try simp only [Act.put, List.setIfInBounds_toArray, List.set_cons_zero, List.set_cons_succ]
                clear hK K
                refine take_at (i := 1) (k := 55) (v := (.slice (some ⟨ba7, oa7 + 32, none⟩) (ma7 - 1) (ca7 - 1))) rfl rfl (by kernel_rfl) (by kernel_rfl) (by kernel_rfl) (fun _ _ _ h => h) (Or.inl ⟨by rfl, fun w _ => by go_simp⟩) hHeld ?_
                try simp only [Act.put, List.setIfInBounds_toArray, List.set_cons_zero, List.set_cons_succ]
                clear hHeld
                refine wpAnyH_ready (rs := [4]) (by kernel_rfl) (by simp) ?_
                refine AllReadyH.cons rfl (fun K hK => ?_) AllReadyH.nil
                rw [if_pos (by rfl)]
                have q3 := (po7.out.below B0.out).c
                have p3 := (po7.out.below B0.out).f
                go_simp
                clear q3 p3
                refine hK.out _ _ (Lib.hid trivial : Hid True).out (fun hHeld => ?_)
                try simp only [Act.put, List.setIfInBounds_toArray, List.set_cons_zero, List.set_cons_succ]
                clear hK K
                clear hHeld
                refine wpAnyH_ready (rs := [5]) (by kernel_rfl) (by simp) ?_
                refine AllReadyH.cons rfl (fun K hK => ?_) AllReadyH.nil
                rw [if_pos (by rfl)]
                have q4 := ((qo7.out.below B0.out).other h43 (.slice (some ⟨ba7, oa7 + 32, none⟩) (ma7 - 1) (ca7 - 1))).c
                have p4 := ((qo7.out.below B0.out).other h43 (.slice (some ⟨ba7, oa7 + 32, none⟩) (ma7 - 1) (ca7 - 1))).f
                go_simp
                clear q4 p4
                refine hK.out _ _ (Lib.hid trivial : Hid True).out (fun hHeld => ?_)
                try simp only [Act.put, List.setIfInBounds_toArray, List.set_cons_zero, List.set_cons_succ]
                clear hK K
                clear hHeld
                refine wpAnyH_done (by kernel_rfl) ?_ _
                obtain ⟨hk8, hP8⟩ := (HP7.out.later HL.out B0.out).paths HL.out hLa.out hLb.out
                gi_wp2
                refine ⟨by rw [← hsz1]; exact keeps_gb ((hk7'.next B0.out).trans hk8), ?_, HJ1.out⟩
                rw [HNA.out, HNB.out]
                exact hP8
        · rw [hal] at HC
          have hnA : tsL (stepsL i n) (k + 1) (ta, p) = (xa, ra) := by rw [ts_next hz, hEA]; unfold tst; rw [if_pos hal]
          have hnB : tsL (stepsL i n) (k + 1) (tb, q) = (xb, rb) := by rw [ts_next hz, hEB]; unfold tst; rw [if_pos hal]
          have HNA := Lib.hid hnA
          have HNB := Lib.hid hnB
          clear hal hEA hEB hnA hnB
          generalize hga : sha xa = dA at *
          generalize hgb : sha xb = dB at *
          gi_wp2_with (first
            | refine dgIn_load rfl (.tmp 16) rfl gd dA hdA hlA rfl ?_
            | refine dgIn_load rfl (.tmp 17) rfl gf dB hdB hlB rfl ?_
            | (refine ⟨trivial, ?_⟩; gi_at_call 41; refine (CallsIn.inRound l (callsIn_wide.2 HC.out)).mono ?_; rintro e V2 ⟨rfl, hb2⟩))
          refine ⟨keeps_below hb2, ?_, HJ1.out⟩
          rw [HNA.out, HNB.out]
          simp only
          rw [hga, hgb]
          exact HP.out.later hL hb2
    case done =>
      rintro D V hD hP hK
      have hres := fcN_eq (A := (ta, p)) (B := (tb, q)) hP.2 (.inl rfl)
      obtain ⟨ua, xo, hxx⟩ := hP.1.x
      obtain ⟨ub, yo, hyy⟩ := hP.1.y
      obtain ⟨pu, nu, cu, rfl⟩ := hxx.out.slice
      obtain ⟨pv, nv, cv, rfl⟩ := hyy.out.slice
      have HBV := Lib.hid hP.1.below
      have HXX := Lib.hid hxx.out.bv
      have HYY := Lib.hid hyy.out.bv
      have hc1 := xo.c
      have hc2 := yo.c
      have HRES := Lib.hid hres
      clear hP hres xo yo hxx hyy
      gi_upto_region 9 with fail
      refine wpIn_wide.2 ?_
      go_quiet (fail)
      have hK2 : (V.drewN nq).heap[D]? = some (.deferred (some [])) := hK
      have hB3 : Below w.heap.size w (V.drewN nq) := HBV.out.trans ⟨rfl, rfl, rfl, Nat.le_refl _, fun _ _ => rfl⟩
      gi_wp2
      refine ⟨by simp, .inl ⟨_, _, rfl, run_takeDeferred hK2, ?_⟩⟩
      refine ⟨_, results_tmp2 rfl _ _ _, _, _, rfl, ?_, ?_, hB3.trans (belowK_b (w := w) (Nat.le_refl _) _ D _ _ (by omega) hK2 rfl rfl)⟩
      · rw [HRES.out]
        exact BV.put (BV.below HXX.out ⟨rfl, rfl, rfl, Nat.le_refl _, fun _ _ => rfl⟩) hK2 _
      · rw [HRES.out]
        exact BV.put (BV.below HYY.out ⟨rfl, rfl, rfl, Nat.le_refl _, fun _ _ => rfl⟩) hK2 _
    case stop =>
      rintro D c V hD ⟨rfl, k, hk, hP, he⟩ hK
      have hres := fcN_eq (A := (ta, p)) (B := (tb, q)) hP.2 (.inr ⟨hk, he⟩)
      obtain ⟨ua, xo, hxx⟩ := hP.1.x
      obtain ⟨ub, yo, hyy⟩ := hP.1.y
      obtain ⟨pu, nu, cu, rfl⟩ := hxx.out.slice
      obtain ⟨pv, nv, cv, rfl⟩ := hyy.out.slice
      have HBV := Lib.hid hP.1.below
      have HXX := Lib.hid hxx.out.bv
      have HYY := Lib.hid hyy.out.bv
      have hc1 := xo.c
      have hc2 := yo.c
      have HRES := Lib.hid hres
      clear hP hres he hk xo yo hxx hyy
      gi_upto_region 9 with fail
      refine wpIn_wide.2 ?_
      go_quiet (fail)
      have hK2 : (V.drewN nq).heap[D]? = some (.deferred (some [])) := hK
      have hB3 : Below w.heap.size w (V.drewN nq) := HBV.out.trans ⟨rfl, rfl, rfl, Nat.le_refl _, fun _ _ => rfl⟩
      gi_wp2
      refine ⟨by simp, .inl ⟨_, _, rfl, run_takeDeferred hK2, ?_⟩⟩
      refine ⟨_, results_tmp2 rfl _ _ _, _, _, rfl, ?_, ?_, hB3.trans (belowK_b (w := w) (Nat.le_refl _) _ D _ _ (by omega) hK2 rfl rfl)⟩
      · rw [HRES.out]
        exact BV.put (BV.below HXX.out ⟨rfl, rfl, rfl, Nat.le_refl _, fun _ _ => rfl⟩) hK2 _
      · rw [HRES.out]
        exact BV.put (BV.below HYY.out ⟨rfl, rfl, rfl, Nat.le_refl _, fun _ _ => rfl⟩) hK2 _
end Go.Proofs.YteeabenmfmeooaaDoor
