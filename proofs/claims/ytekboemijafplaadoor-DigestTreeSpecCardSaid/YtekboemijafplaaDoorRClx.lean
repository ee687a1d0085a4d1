/-
  Digest: the reference's climb and Climb, where a path has the right length.
-/
import Derived.Test.YtekboemijafplaaDoorClx
import Derived.Test.YtekboemijafplaaDoorRNode
import Derived.Test.YtekboemijafplaaDoorRTree
import Derived.Deep.Cut
namespace Go.Proofs.YtekboemijafplaaDoor
open Go Go.RowKit
theorem Dg.chgd {w w' : World} {g k : Nat} {l : List UInt8} (h : Dg w g l) (hc : Chg k w w') (hne : g ≠ k) : Dg w' g l := (hc.block g (Array.getElem?_eq_some_iff.1 h).1 hne).trans h
def RcxOk (n : Nat) : Prop := ∀ (d : List UInt8) (at' : Nat) (p : List (List UInt8)) (v : Value) (w : World), 1 ≤ n → n ≤ 1099511627776 → at' < n → d.length = 32 → D32 p → p.length = QL at' n → LD w v p →
  Calls Tryd.prog 44 #[dgv d, .int .i64 (at' : Int), .int .i64 (n : Int), v] w (CxR d at' n p w)
theorem dg_bv' {w : World} {g : Nat} {d : List UInt8} (h : Dg w g d) (hd : d.length = 32) : BV w (.slice (some ⟨g, 0, none⟩) 32 32) d :=
  ⟨g, 32, _, by rw [hd], by rw [hd]; exact Nat.le_refl _, by omega, (fun e => by cases e), .inr ⟨0, rfl, (Array.getElem?_eq_some_iff.1 h).1, fun j c hj => by
    have hlt := (List.getElem?_eq_some_iff.1 hj).1
    have := h.get j hlt
    rw [List.getD_eq_getElem?_getD, hj] at this
    rw [Nat.zero_add]
    exact this⟩⟩
set_option maxRecDepth 100000 in
set_option maxHeartbeats 1000000 in
theorem rcx_one : RcxOk 1 := by
  intro d at' p v w _ _ _ hd _ _ _
  have HD := Lib.hid hd
  clear hd
  go_enter Tryd.func44, Tryd.ntmps44
  have H2 := Lib.hid (two w d)
  go_wp2_with (first
    | (go_at_call 15; refine (rtagged_any sLeaf _ d _ (by decide) (dg_bv' H2.out.a HD.out) (by rw [HD.out]; omega)).mono ?_; rintro e w1 ⟨rfl, hb1⟩; have hd1 : Dg w1 (w.heap.size + 1) _ := H2.out.z.below hb1; have hst := store_dg hd1 (by simp) (tg_len (bts sLeaf) d); have hsz := tg_len (bts sLeaf) d; have hb2 := H2.out.below.trans (hb1.mono (by have := H2.out.size; omega))))
  rw [← CX_one d at' p] at *
  exact bodyPost_ret (results_cell_row rfl _ _ (w.heap.size + 1) 26 _ (0, 0) _ rfl (setRow_heap _ _ _ _ _ _ hd1) Tryd.underlying26 rfl (dg_size (CX_len _ _ _ _ (by omega)))) rfl ⟨rfl, Chg.below hb2 (by have := hb2.size; omega) (by omega) (chg_row _ _ _)⟩
set_option maxRecDepth 100000 in
set_option maxHeartbeats 2000000 in
theorem rcx_two (n : Nat) (ih : ∀ m, m < n → RcxOk m) (hn : 2 ≤ n) : RcxOk n := by
  intro d at' p v w _ h64 hat hd h32 hp hv 
  have hpos : 1 ≤ p.length := by
    rw [hp, QL_two _ _ hn]
    split <;> omega
  have hform : ∃ b o cap, v = .slice (some ⟨b, o, none⟩) p.length cap ∧ p.length ≤ cap ∧ cap ≤ maxLen := by
    obtain ⟨b, cap, q, rfl, h1, h2, h3, h4⟩ := hv
    rcases h4 with rfl | ⟨o, rfl, _⟩
    · simp at hpos
    · exact ⟨b, o, cap, rfl, h1, h2⟩
  obtain ⟨b, o, cap, rfl, hcap, hmax⟩ := hform
  unfold maxLen at hmax
  have hblt : b < w.heap.size := by
    obtain ⟨b', cap', q', e, _, _, _, h4⟩ := hv
    cases e
    rcases h4 with rfl | ⟨o', e', h5, _⟩
    · simp at hpos
    · cases e'; exact h5
  have hq : p.dropLast = p.take (p.length - 1) := List.dropLast_eq_take
  have hq32 : D32 p.dropLast := by rw [hq]; exact h32.take _
  have hx := last_at hpos
  have hx32 : (p.getLastD []).length = 32 := h32 _ (List.mem_of_getElem? hx)
  have hc := CX_two d at' n p hn
  have hql : p.dropLast.length = p.length - 1 := List.length_dropLast
  have hpl := QL_two at' n hn
  have hplt := QL_lt n at' (by omega)
  generalize hQ : p.dropLast = q at *
  generalize hX : p.getLastD [] = x at *
  generalize hM : p.length = m at *
  have hlp := hp_pos n
  have hll := hp_lt hn
  have HD := Lib.hid hd
  have HX := Lib.hid hx32
  have HC := Lib.hid hc
  have HIH := Lib.hid ih
  have HQ32 := Lib.hid hq32
  have HPL := Lib.hid hpl
  have HP := Lib.hid hp
  have HQL := Lib.hid hql
  have hn1 : ((n : Int) == 1) = false := by simp; omega
  have hml : m < n := by omega
  clear hp hd hx32 hc ih hq32 hpl hql
  have hs1 : IntKind.i64.wrap ((m : Int) - 1) = ((m - 1 : Nat) : Int) := by rw [IntWalk.i64_in _ (by omega)]; omega
  have hmc : m ≤ cap + 1 := by omega
  have hmm : m - 1 < m := by omega
  have hm1 : 1 ≤ m := hpos
  have hsx : (Tryd.prog.info? 26).map (·.size) = some (x.map byt).length := by rw [size26, List.length_map, HX.out]
  have hsd : (Tryd.prog.info? 26).map (·.size) = some (d.map byt).length := by rw [size26, List.length_map, HD.out]
  have HV := Lib.hid hv
  have H32 := Lib.hid h32
  have HXA := Lib.hid hx
  have HQE := Lib.hid hq
  clear hv h32 hx hq
  go_enter Tryd.func44, Tryd.ntmps44
  have H2 := Lib.hid (two w d)
  go_wp2_with fail
  generalize hW : ((w.alloc _).alloc _) = W
  have H2 : Hid (Two w W d) := Lib.hid (by rw [← hW]; exact two w d)
  clear hW
  refine (rhalf_any n hn h64 _).mono ?_
  rintro e w4 ⟨rfl, hb4⟩
  have hsz := H2.out.size
  have hz4 : w.heap.size + 2 ≤ w4.heap.size := by have := hb4.size; omega
  have H4 := Lib.hid (H2.out.below.trans (hb4.mono (by omega)))
  have HA4 := Lib.hid (H2.out.a.below hb4)
  have HZ4 := Lib.hid (H2.out.z.below hb4)
  have HV4 := Lib.hid (HV.out.below H4.out)
  have HR4 := Lib.hid (HV4.out.at H32.out (m - 1) x HXA.out)
  clear hb4 H2
  go_upto_region 5 with (first
    | (refine wpList_load_mid rfl 26 (.tmp 21) rfl b (o + (m - 1) * 32) rfl (x.map byt) _ HR4.out Tryd.underlying26 rfl hsx ?_)
    | (refine dg_store rfl (.tmp 10) (.tmp 22) rfl w4.heap.size zeros x (zeros32 w4) (by simp [zeros]) HX.out rfl rfl ?_; rintro w5 hd5 hc5; have hb5 := chg_alloc_below hc5 rfl))
  have H5 := Lib.hid (below_drew (H4.out.trans (hb5.mono H4.out.size)))
  have HA5 : Hid (Dg w5.drew w.heap.size d) := Lib.hid (HA4.out.below (below_drew hb5))
  have HZ5 : Hid (Dg w5.drew (w.heap.size + 1) (List.replicate 32 0)) := Lib.hid (HZ4.out.below (below_drew hb5))
  have HX5 : Hid (Dg w5.drew w4.heap.size x) := Lib.hid hd5.out
  have HV5 := Lib.hid (HV4.out.below (below_drew hb5))
  have hva : LD w5.drew (.slice (some ⟨b, o, none⟩) (m - 1) cap) q := by rw [HQE.out]; exact HV5.out.pre (m - 1) (by omega)
  have HVA := Lib.hid hva
  clear hva hd5 hc5 hb5 HV4 HR4 HA4 HZ4 H4
  generalize w4.heap.size = g at *
  by_cases hlt : at' < hfx n
  · have hc := HC.out
    have hp := HPL.out
    have hm := HP.out
    have hl := HQL.out
    rw [if_pos hlt] at hc hp
    have hql : q.length = QL at' (hfx n) := by omega
    have HC1 := Lib.hid hc
    have HQL1 := Lib.hid hql
    clear HC HPL HP hc hp hm hl hql HQL
    have C := Lib.hid (HIH.out (hfx n) (by omega) d at' q _ w5.drew (by omega) (by omega) (by omega) HD.out HQ32.out HQL1.out HVA.out)
    go_wp2_with fail
    refine wp_region_held_drew (S := fun w' => w'.rangeAt w.heap.size 0 (d.map byt) ∧ w'.rangeAt g 0 (x.map byt)) (by kernel_rfl) ⟨dg_range HA5.out, dg_range HX5.out⟩ (fun hHeld => ?_)
    refine take_at (i := 0) (k := 26) (v := dgv d) rfl rfl (by kernel_rfl) (by kernel_rfl) (by kernel_rfl) (fun _ _ _ h => h) (yieldsIf_load_mid (by rfl) 26 (.tmp 4) rfl w.heap.size 0 rfl (d.map byt) _ (fun w' h => h.1) Tryd.underlying26 rfl hsd) hHeld ?_
    try simp only [Act.put, List.setIfInBounds_toArray, List.set_cons_zero, List.set_cons_succ]
    refine take_at (i := 1) (k := 27) (v := .int .i64 (at' : Int)) rfl rfl (by kernel_rfl) (by kernel_rfl) (by kernel_rfl) (fun _ _ _ h => h) (Or.inl ⟨by rfl, fun w _ => by go_simp⟩) hHeld ?_
    try simp only [Act.put, List.setIfInBounds_toArray, List.set_cons_zero, List.set_cons_succ]
    refine take_at (i := 2) (k := 28) (v := .int .i64 (hfx n : Int)) rfl rfl (by kernel_rfl) (by kernel_rfl) (by kernel_rfl) (fun _ _ _ h => h) (Or.inl ⟨by rfl, fun w _ => by go_simp⟩) hHeld ?_
    try simp only [Act.put, List.setIfInBounds_toArray, List.set_cons_zero, List.set_cons_succ]
    refine take_at (i := 3) (k := 29) (v := .slice (some ⟨b, o, none⟩) m cap) rfl rfl (by kernel_rfl) (by kernel_rfl) (by kernel_rfl) (fun _ _ _ h => h) (Or.inl ⟨by rfl, fun w _ => by go_simp⟩) hHeld ?_
    try simp only [Act.put, List.setIfInBounds_toArray, List.set_cons_zero, List.set_cons_succ]
    refine take_at (i := 4) (k := 30) (v := .slice (some ⟨b, o, none⟩) m cap) rfl rfl (by kernel_rfl) (by kernel_rfl) (by kernel_rfl) (fun _ _ _ h => h) (Or.inl ⟨by rfl, fun w _ => by go_simp⟩) hHeld ?_
    try simp only [Act.put, List.setIfInBounds_toArray, List.set_cons_zero, List.set_cons_succ]
    refine take_at (i := 5) (k := 31) (v := .int .i64 (m : Int)) rfl rfl (by kernel_rfl) (by kernel_rfl) (by kernel_rfl) (fun _ _ _ h => h) (Or.inl ⟨by rfl, fun w _ => by go_simp⟩) hHeld ?_
    try simp only [Act.put, List.setIfInBounds_toArray, List.set_cons_zero, List.set_cons_succ]
    refine take_at (i := 6) (k := 32) (v := .int .i64 ((m - 1 : Nat) : Int)) rfl rfl (by kernel_rfl) (by kernel_rfl) (by kernel_rfl) (fun _ _ _ h => h) (Or.inl ⟨by rfl, fun w _ => by go_simp⟩) hHeld ?_
    try simp only [Act.put, List.setIfInBounds_toArray, List.set_cons_zero, List.set_cons_succ]
    refine take_at (i := 7) (k := 33) (v := .slice (some ⟨b, o, none⟩) (m - 1) cap) rfl rfl (by kernel_rfl) (by kernel_rfl) (by kernel_rfl) (fun _ _ _ h => h) (Or.inl ⟨by rfl, fun w _ => by go_simp⟩) hHeld ?_
    try simp only [Act.put, List.setIfInBounds_toArray, List.set_cons_zero, List.set_cons_succ]
    refine take_at (i := 9) (k := 35) (v := dgv x) rfl rfl (by kernel_rfl) (by kernel_rfl) (by kernel_rfl) (fun _ _ _ h => h) (yieldsIf_load_mid (by rfl) 26 (.tmp 10) rfl g 0 rfl (x.map byt) _ (fun w' h => h.2) Tryd.underlying26 rfl hsx) hHeld ?_
    try simp only [Act.put, List.setIfInBounds_toArray, List.set_cons_zero, List.set_cons_succ]
    clear hHeld
    refine wpAnyH_ready (rs := [8]) (by kernel_rfl) (by simp) ?_
    refine AllReadyH.cons rfl (fun K hK => ?_) AllReadyH.nil
    go_simp
    go_at_call 44
    refine C.out.mono ?_
    rintro e w6 ⟨rfl, hb6⟩
    have B6 := Lib.hid (H5.out.trans (hb6.mono H5.out.size))
    have A6 := Lib.hid (HA5.out.below hb6)
    have Z6 := Lib.hid (HZ5.out.below hb6)
    have X6 := Lib.hid (HX5.out.below hb6)
    refine hK.out _ _ ⟨dg_range A6.out, dg_range X6.out⟩ (fun _ => ?_)
    try simp only [Act.put, List.setIfInBounds_toArray, List.set_cons_zero, List.set_cons_succ]
    refine wpAnyH_ready (rs := [10]) (by kernel_rfl) (by simp) ?_
    refine AllReadyH.cons rfl (fun K hK => ?_) AllReadyH.nil
    go_simp
    go_at_call 38
    refine (rnode_any (CX d at' (hfx n) q) x w6 (CX_len _ _ _ _ (by omega)) HX.out).mono ?_
    rintro e w7 ⟨rfl, hb7⟩
    rw [← HC1.out]
    have B7 := Lib.hid (B6.out.trans (hb7.mono B6.out.size))
    have A7 := Lib.hid (A6.out.below hb7)
    have Z7 := Lib.hid (Z6.out.below hb7)
    have X7 := Lib.hid (X6.out.below hb7)
    refine hK.out _ _ ⟨dg_range A7.out, dg_range X7.out⟩ (fun _ => ?_)
    try simp only [Act.put, List.setIfInBounds_toArray, List.set_cons_zero, List.set_cons_succ]
    refine wpAnyH_ready (rs := [11]) (by kernel_rfl) (by simp) ?_
    refine AllReadyH.cons rfl (fun K hK => ?_) AllReadyH.nil
    have hst := store_dg Z7.out (by simp) (CX_len d at' n p (by omega))
    have hsz := CX_len d at' n p (by omega)
    go_simp
    have hc8 := chg_row w7 (w.heap.size + 1) ((CX d at' n p).map byt).toArray
    refine hK.out _ _ ⟨dg_range (A7.out.chgd hc8 (by omega)), dg_range (X7.out.chgd hc8 (by omega))⟩ (fun _ => ?_)
    try simp only [Act.put, List.setIfInBounds_toArray, List.set_cons_zero, List.set_cons_succ]
    refine wpAnyH_done (by kernel_rfl) ?_ _
    clear hst hsz
    go_wp2_with fail
    exact bodyPost_ret (results_cell_row rfl _ _ (w.heap.size + 1) 26 _ (0, 0) _ rfl (setRow_heap _ _ _ _ _ _ Z7.out) Tryd.underlying26 rfl (dg_size (CX_len _ _ _ _ (by omega)))) rfl ⟨rfl, Chg.below B7.out B7.out.size (by omega) hc8⟩
  · have hc := HC.out
    have hp := HPL.out
    have hm := HP.out
    have hl := HQL.out
    rw [if_neg hlt] at hc hp
    have hql : q.length = QL (at' - hfx n) (n - hfx n) := by omega
    have HC1 := Lib.hid hc
    have HQL1 := Lib.hid hql
    clear HC HPL HP hc hp hm hl hql HQL
    have e1 : IntKind.i64.wrap ((at' : Int) - (hfx n : Int)) = ((at' - hfx n : Nat) : Int) := by rw [IntWalk.i64_in _ (by omega)]; omega
    have e2 : IntKind.i64.wrap ((n : Int) - (hfx n : Int)) = ((n - hfx n : Nat) : Int) := by rw [IntWalk.i64_in _ (by omega)]; omega
    have C := Lib.hid (HIH.out (n - hfx n) (by omega) d (at' - hfx n) q _ w5.drew (by omega) (by omega) (by omega) HD.out HQ32.out HQL1.out HVA.out)
    go_wp2_with fail
    refine wp_region_held_drew (S := fun w' => w'.rangeAt w.heap.size 0 (d.map byt) ∧ w'.rangeAt g 0 (x.map byt)) (by kernel_rfl) ⟨dg_range HA5.out, dg_range HX5.out⟩ (fun hHeld => ?_)
    refine take_at (i := 0) (k := 37) (v := dgv x) rfl rfl (by kernel_rfl) (by kernel_rfl) (by kernel_rfl) (fun _ _ _ h => h) (yieldsIf_load_mid (by rfl) 26 (.tmp 10) rfl g 0 rfl (x.map byt) _ (fun w' h => h.2) Tryd.underlying26 rfl hsx) hHeld ?_
    try simp only [Act.put, List.setIfInBounds_toArray, List.set_cons_zero, List.set_cons_succ]
    refine take_at (i := 1) (k := 38) (v := dgv d) rfl rfl (by kernel_rfl) (by kernel_rfl) (by kernel_rfl) (fun _ _ _ h => h) (yieldsIf_load_mid (by rfl) 26 (.tmp 4) rfl w.heap.size 0 rfl (d.map byt) _ (fun w' h => h.1) Tryd.underlying26 rfl hsd) hHeld ?_
    try simp only [Act.put, List.setIfInBounds_toArray, List.set_cons_zero, List.set_cons_succ]
    refine take_at (i := 2) (k := 39) (v := .int .i64 (at' : Int)) rfl rfl (by kernel_rfl) (by kernel_rfl) (by kernel_rfl) (fun _ _ _ h => h) (Or.inl ⟨by rfl, fun w _ => by go_simp⟩) hHeld ?_
    try simp only [Act.put, List.setIfInBounds_toArray, List.set_cons_zero, List.set_cons_succ]
    refine take_at (i := 3) (k := 40) (v := .int .i64 (hfx n : Int)) rfl rfl (by kernel_rfl) (by kernel_rfl) (by kernel_rfl) (fun _ _ _ h => h) (Or.inl ⟨by rfl, fun w _ => by go_simp⟩) hHeld ?_
    try simp only [Act.put, List.setIfInBounds_toArray, List.set_cons_zero, List.set_cons_succ]
    refine take_at (i := 4) (k := 41) (v := .int .i64 ((at' - hfx n : Nat) : Int)) rfl rfl (by kernel_rfl) (by kernel_rfl) (by kernel_rfl) (fun _ _ _ h => h) (Or.inl ⟨by rfl, fun w _ => by go_simp⟩) hHeld ?_
    try simp only [Act.put, List.setIfInBounds_toArray, List.set_cons_zero, List.set_cons_succ]
    refine take_at (i := 5) (k := 42) (v := .int .i64 (n : Int)) rfl rfl (by kernel_rfl) (by kernel_rfl) (by kernel_rfl) (fun _ _ _ h => h) (Or.inl ⟨by rfl, fun w _ => by go_simp⟩) hHeld ?_
    try simp only [Act.put, List.setIfInBounds_toArray, List.set_cons_zero, List.set_cons_succ]
    refine take_at (i := 6) (k := 43) (v := .int .i64 (hfx n : Int)) rfl rfl (by kernel_rfl) (by kernel_rfl) (by kernel_rfl) (fun _ _ _ h => h) (Or.inl ⟨by rfl, fun w _ => by go_simp⟩) hHeld ?_
    try simp only [Act.put, List.setIfInBounds_toArray, List.set_cons_zero, List.set_cons_succ]
    refine take_at (i := 7) (k := 44) (v := .int .i64 ((n - hfx n : Nat) : Int)) rfl rfl (by kernel_rfl) (by kernel_rfl) (by kernel_rfl) (fun _ _ _ h => h) (Or.inl ⟨by rfl, fun w _ => by go_simp⟩) hHeld ?_
    try simp only [Act.put, List.setIfInBounds_toArray, List.set_cons_zero, List.set_cons_succ]
    refine take_at (i := 8) (k := 45) (v := .slice (some ⟨b, o, none⟩) m cap) rfl rfl (by kernel_rfl) (by kernel_rfl) (by kernel_rfl) (fun _ _ _ h => h) (Or.inl ⟨by rfl, fun w _ => by go_simp⟩) hHeld ?_
    try simp only [Act.put, List.setIfInBounds_toArray, List.set_cons_zero, List.set_cons_succ]
    refine take_at (i := 9) (k := 46) (v := .slice (some ⟨b, o, none⟩) m cap) rfl rfl (by kernel_rfl) (by kernel_rfl) (by kernel_rfl) (fun _ _ _ h => h) (Or.inl ⟨by rfl, fun w _ => by go_simp⟩) hHeld ?_
    try simp only [Act.put, List.setIfInBounds_toArray, List.set_cons_zero, List.set_cons_succ]
    refine take_at (i := 10) (k := 47) (v := .int .i64 (m : Int)) rfl rfl (by kernel_rfl) (by kernel_rfl) (by kernel_rfl) (fun _ _ _ h => h) (Or.inl ⟨by rfl, fun w _ => by go_simp⟩) hHeld ?_
    try simp only [Act.put, List.setIfInBounds_toArray, List.set_cons_zero, List.set_cons_succ]
    refine take_at (i := 11) (k := 48) (v := .int .i64 ((m - 1 : Nat) : Int)) rfl rfl (by kernel_rfl) (by kernel_rfl) (by kernel_rfl) (fun _ _ _ h => h) (Or.inl ⟨by rfl, fun w _ => by go_simp⟩) hHeld ?_
    try simp only [Act.put, List.setIfInBounds_toArray, List.set_cons_zero, List.set_cons_succ]
    refine take_at (i := 12) (k := 49) (v := .slice (some ⟨b, o, none⟩) (m - 1) cap) rfl rfl (by kernel_rfl) (by kernel_rfl) (by kernel_rfl) (fun _ _ _ h => h) (Or.inl ⟨by rfl, fun w _ => by go_simp⟩) hHeld ?_
    try simp only [Act.put, List.setIfInBounds_toArray, List.set_cons_zero, List.set_cons_succ]
    clear hHeld
    refine wpAnyH_ready (rs := [13]) (by kernel_rfl) (by simp) ?_
    refine AllReadyH.cons rfl (fun K hK => ?_) AllReadyH.nil
    go_simp
    go_at_call 44
    refine C.out.mono ?_
    rintro e w6 ⟨rfl, hb6⟩
    have B6 := Lib.hid (H5.out.trans (hb6.mono H5.out.size))
    have A6 := Lib.hid (HA5.out.below hb6)
    have Z6 := Lib.hid (HZ5.out.below hb6)
    have X6 := Lib.hid (HX5.out.below hb6)
    refine hK.out _ _ ⟨dg_range A6.out, dg_range X6.out⟩ (fun _ => ?_)
    try simp only [Act.put, List.setIfInBounds_toArray, List.set_cons_zero, List.set_cons_succ]
    refine wpAnyH_ready (rs := [14]) (by kernel_rfl) (by simp) ?_
    refine AllReadyH.cons rfl (fun K hK => ?_) AllReadyH.nil
    go_simp
    go_at_call 38
    refine (rnode_any x (CX d (at' - hfx n) (n - hfx n) q) w6 HX.out (CX_len _ _ _ _ (by omega))).mono ?_
    rintro e w7 ⟨rfl, hb7⟩
    rw [← HC1.out]
    have B7 := Lib.hid (B6.out.trans (hb7.mono B6.out.size))
    have A7 := Lib.hid (A6.out.below hb7)
    have Z7 := Lib.hid (Z6.out.below hb7)
    have X7 := Lib.hid (X6.out.below hb7)
    refine hK.out _ _ ⟨dg_range A7.out, dg_range X7.out⟩ (fun _ => ?_)
    try simp only [Act.put, List.setIfInBounds_toArray, List.set_cons_zero, List.set_cons_succ]
    refine wpAnyH_ready (rs := [15]) (by kernel_rfl) (by simp) ?_
    refine AllReadyH.cons rfl (fun K hK => ?_) AllReadyH.nil
    have hst := store_dg Z7.out (by simp) (CX_len d at' n p (by omega))
    have hsz := CX_len d at' n p (by omega)
    go_simp
    have hc8 := chg_row w7 (w.heap.size + 1) ((CX d at' n p).map byt).toArray
    refine hK.out _ _ ⟨dg_range (A7.out.chgd hc8 (by omega)), dg_range (X7.out.chgd hc8 (by omega))⟩ (fun _ => ?_)
    try simp only [Act.put, List.setIfInBounds_toArray, List.set_cons_zero, List.set_cons_succ]
    refine wpAnyH_done (by kernel_rfl) ?_ _
    clear hst hsz
    go_wp2_with fail
    exact bodyPost_ret (results_cell_row rfl _ _ (w.heap.size + 1) 26 _ (0, 0) _ rfl (setRow_heap _ _ _ _ _ _ Z7.out) Tryd.underlying26 rfl (dg_size (CX_len _ _ _ _ (by omega)))) rfl ⟨rfl, Chg.below B7.out B7.out.size (by omega) hc8⟩
theorem rcx_all : ∀ n, RcxOk n := fun n => Nat.strongRecOn n fun n ih => by
  by_cases hn : 2 ≤ n
  · exact rcx_two n ih hn
  · intro d at' p v w h1
    obtain rfl : n = 1 := by omega
    exact rcx_one d at' p v w h1
set_option maxRecDepth 100000 in
set_option maxHeartbeats 1000000 in
theorem rclimb_ok (d : List UInt8) (at' n : Nat) (p : List (List UInt8)) (v : Value) (w : World) (h1 : 1 ≤ n) (h64 : n ≤ 1099511627776) (hat : at' < n) (hd : d.length = 32) (h32 : D32 p) (hp : p.length = QL at' n) (hv : LD w v p) :
    Calls Tryd.prog 23 #[dgv d, .int .i64 (at' : Int), .int .i64 (n : Int), v] w (ClimbR (CX d at' n p) 0 w) := by
  have hform : ∃ q cap, v = .slice q p.length cap := by
    obtain ⟨b, cap, q, rfl, _⟩ := hv
    exact ⟨q, cap, rfl⟩
  obtain ⟨q, cap, rfl⟩ := hform
  have C := Lib.hid (fun (U : World) (hb : Below w.heap.size w U) => rcx_all n d at' p _ U h1 h64 hat hd h32 hp (hv.below hb))
  have HD := Lib.hid hd
  have HP := Lib.hid (rlen_all n h1 h64 at')
  rw [hp] at C ⊢
  have hlt := QL_lt n at' h1
  have c1 : decide ((n : Int) < 1) = false := by simp; omega
  have c2 : decide ((1099511627776 : Int) < (n : Int)) = false := by simp; omega
  have c3 : decide ((at' : Int) < 0) = false := by simp
  have c4 : decide ((n : Int) ≤ (at' : Int)) = false := by simp; omega
  have c5 : ¬ (n ≤ at') := by omega
  clear hv hd h32 hp
  go_enter Tryd.func23, Tryd.ntmps23
  have H2 := Lib.hid (two w d)
  go_wp2_with (first
    | (go_at_call 43; refine (HP.out _ hat).mono ?_; rintro e w1 ⟨rfl, hb1⟩; have H3 : Hid (Below w.heap.size w w1 ∧ Dg w1 w.heap.size d ∧ Dg w1 (w.heap.size + 1) (List.replicate 32 0)) := Lib.hid ⟨H2.out.below.trans (hb1.mono (Nat.le_trans (Nat.le_add_right _ 2) (Nat.le_of_eq H2.out.size.symm))), H2.out.a.below hb1, H2.out.z.below hb1⟩; clear hb1)
    | (refine dg_load rfl (.tmp 4) rfl w.heap.size d H3.out.2.1 HD.out rfl ?_)
    | (go_at_call 44; refine (C.out _ H3.out.1).mono ?_; rintro e w2 ⟨rfl, hb2⟩; have hd2 : Dg w2 (w.heap.size + 1) (List.replicate 32 0) := H3.out.2.2.below hb2; have hst := store_dg hd2 (by simp) (CX_len d at' n p h1); have hsz := CX_len d at' n p h1))
  exact bodyPost_ret (res2 rfl _ _ (w.heap.size + 1) _ rfl (setRow_heap _ _ _ _ _ _ hd2) (CX_len d at' n p h1)) rfl ⟨rfl, Chg.below (H3.out.1.trans (hb2.mono H3.out.1.size)) (by have := H3.out.1.size; have := hb2.size; omega) (by omega) (chg_row _ _ _)⟩
end Go.Proofs.YtekboemijafplaaDoor
