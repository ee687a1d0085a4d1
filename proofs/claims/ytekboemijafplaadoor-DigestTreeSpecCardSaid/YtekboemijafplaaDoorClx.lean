/-
  Digest: climb, Climb for every count up to 2^40.
-/
import Derived.Test.YtekboemijafplaaDoorFpx
import Derived.Test.YtekboemijafplaaDoorCb
namespace Go.Proofs.YtekboemijafplaaDoor
open Go Go.RowKit
def clmx : Nat → List UInt8 → Nat → Nat → List (List UInt8) → List UInt8
  | 0, d, _, _, _ => d
  | f + 1, d, at', n, p => if n ≤ 1 then tg (bts sLeaf) d else
    if at' < hfx n then tg (bts sNode) (clmx f d at' (hfx n) p.dropLast ++ p.getLastD []) else tg (bts sNode) (p.getLastD [] ++ clmx f d (at' - hfx n) (n - hfx n) p.dropLast)
theorem clmx_fuel : ∀ (f f' : Nat) (d : List UInt8) (at' n : Nat) (p : List (List UInt8)), n ≤ f → n ≤ f' → 1 ≤ n → clmx f d at' n p = clmx f' d at' n p
  | 0, _, _, _, _, _, h, _, h1 => by omega
  | f + 1, 0, _, _, _, _, _, h, h1 => by omega
  | f + 1, f' + 1, d, at', n, p, h, h', _ => by
    unfold clmx
    by_cases h1 : n ≤ 1
    · simp [h1]
    have hp := hp_pos n
    have hl := hp_lt (n := n) (by omega)
    rw [if_neg h1, if_neg h1, clmx_fuel f f' d at' (hfx n) _ (by omega) (by omega) hp, clmx_fuel f f' d (at' - hfx n) (n - hfx n) _ (by omega) (by omega) (by omega)]
def CX (d : List UInt8) (at' n : Nat) (p : List (List UInt8)) : List UInt8 := clmx n d at' n p
theorem CX_one (d : List UInt8) (at' : Nat) (p : List (List UInt8)) : CX d at' 1 p = tg (bts sLeaf) d := by simp [CX, clmx]
theorem CX_two (d : List UInt8) (at' n : Nat) (p : List (List UInt8)) (h : 2 ≤ n) : CX d at' n p =
    if at' < hfx n then tg (bts sNode) (CX d at' (hfx n) p.dropLast ++ p.getLastD []) else tg (bts sNode) (p.getLastD [] ++ CX d (at' - hfx n) (n - hfx n) p.dropLast) := by
  have hp := hp_pos n
  have hl := hp_lt h
  unfold CX
  obtain ⟨f, hf⟩ : ∃ f, n = f + 1 := ⟨n - 1, by omega⟩
  conv => lhs; rw [hf]; unfold clmx; rw [← hf]
  rw [if_neg (by omega), clmx_fuel f _ d at' (hfx n) _ (by omega) (Nat.le_refl _) hp, clmx_fuel f _ d (at' - hfx n) (n - hfx n) _ (by omega) (Nat.le_refl _) (by omega)]
theorem CX_len (d : List UInt8) (at' n : Nat) (p : List (List UInt8)) (h : 1 ≤ n) : (CX d at' n p).length = 32 := by
  by_cases h1 : n = 1
  · subst h1; rw [CX_one]; exact tg_len _ _
  · rw [CX_two _ _ _ _ (by omega)]
    split <;> exact tg_len _ _
def CxR (d : List UInt8) (at' n : Nat) (p : List (List UInt8)) (w : World) (e : Ending) (w' : World) : Prop := e = .returned (dgv (CX d at' n p)) ∧ Below w.heap.size w w'
def CxOk (n : Nat) : Prop := ∀ (d : List UInt8) (at' : Nat) (p : List (List UInt8)) (v : Value) (w : World), 1 ≤ n → n ≤ 1099511627776 → at' < n → d.length = 32 → D32 p → p.length = QL at' n → LD w v p → KOK w →
  Calls Tryd.prog 42 #[dgv d, .int .i64 (at' : Int), .int .i64 (n : Int), v] w (CxR d at' n p w)
set_option maxRecDepth 100000 in
set_option maxHeartbeats 1000000 in
theorem cx_one : CxOk 1 := by
  intro d at' p v w _ _ _ hd _ _ _ hk
  have HK := Lib.hid hk
  have HD := Lib.hid hd
  clear hk hd
  go_enter Tryd.func42, Tryd.ntmps42
  have H2 := Lib.hid (two w d)
  go_wp2_with (first
    | (refine dg_load rfl (.tmp 4) rfl w.heap.size d H2.out.a HD.out rfl ?_)
    | (go_at_call 34; refine (leaf_any d _ HD.out (HK.out.below H2.out.below)).mono ?_; rintro e w1 ⟨rfl, hb1⟩; have hd1 : Dg w1 (w.heap.size + 1) _ := H2.out.z.below hb1; have hst := store_dg hd1 (by simp) (tg_len (bts sLeaf) d); have hsz := tg_len (bts sLeaf) d; have hb2 := H2.out.below.trans (hb1.mono (by have := H2.out.size; omega))))
  rw [← CX_one d at' p] at *
  exact bodyPost_ret (results_cell_row rfl _ _ (w.heap.size + 1) 26 _ (0, 0) _ rfl (setRow_heap _ _ _ _ _ _ hd1) Tryd.underlying26 rfl (dg_size (CX_len _ _ _ _ (by omega)))) rfl ⟨rfl, Chg.below hb2 (by have := hb2.size; omega) (by omega) (chg_row _ _ _)⟩
set_option maxRecDepth 100000 in
set_option maxHeartbeats 2000000 in
theorem cx_two (n : Nat) (ih : ∀ m, m < n → CxOk m) (hn : 2 ≤ n) : CxOk n := by
  intro d at' p v w _ h64 hat hd h32 hp hv hk
  have hpos : 1 ≤ p.length := by
    rw [hp, QL_two _ _ hn]
    split <;> omega
  have hform : ∃ b o cap, v = .slice (some ⟨b, o, none⟩) p.length cap ∧ p.length ≤ cap ∧ cap ≤ maxLen := by
    obtain ⟨b, cap, q, rfl, h1, h2, h3, h4⟩ := hv
    rcases h4 with rfl | ⟨o, rfl, _⟩
    · simp at hpos
    · exact ⟨b, o, cap, rfl, h1, h2⟩
  obtain ⟨b, o, cap, rfl, hcap, hmax⟩ := hform
  unfold maxLen at hmax
  have hblt : b < w.heap.size := by
    obtain ⟨b', cap', q', e, _, _, _, h4⟩ := hv
    cases e
    rcases h4 with rfl | ⟨o', e', h5, _⟩
    · simp at hpos
    · cases e'; exact h5
  have hq : p.dropLast = p.take (p.length - 1) := List.dropLast_eq_take
  have hq32 : D32 p.dropLast := by rw [hq]; exact h32.take _
  have hx := last_at hpos
  have hx32 : (p.getLastD []).length = 32 := h32 _ (List.mem_of_getElem? hx)
  have hc := CX_two d at' n p hn
  have hql : p.dropLast.length = p.length - 1 := List.length_dropLast
  have hpl := QL_two at' n hn
  have hplt := QL_lt n at' (by omega)
  generalize hQ : p.dropLast = q at *
  generalize hX : p.getLastD [] = x at *
  generalize hM : p.length = m at *
  have hlp := hp_pos n
  have hll := hp_lt hn
  have HK := Lib.hid hk
  have HD := Lib.hid hd
  have HX := Lib.hid hx32
  have HC := Lib.hid hc
  have HIH := Lib.hid ih
  have HQ32 := Lib.hid hq32
  have HPL := Lib.hid hpl
  have HP := Lib.hid hp
  have HQL := Lib.hid hql
  have hn1 : ((n : Int) == 1) = false := by simp; omega
  have hml : m < n := by omega
  clear hp hk hd hx32 hc ih hq32 hpl hql
  go_enter Tryd.func42, Tryd.ntmps42
  go_wp2_with fail
  generalize hW : ((w.alloc _).alloc _) = W
  have H2 : Hid (Two w W d) := Lib.hid (by rw [← hW]; exact two w d)
  clear hW
  have h3 := H2.out.drew
  have hv2 := hv.below h3.below
  have hr := hv2.at h32 (m - 1) x hx
  have hva : LD W.drew (.slice (some ⟨b, o, none⟩) (m - 1) cap) q := by rw [hq]; exact hv2.pre (m - 1) (by omega)
  have hl1 := el_run hr HX.out
  have hr2 : (W.drew.alloc (.cells ((List.replicate 32 (0 : UInt8)).map byt).toArray 26)).rangeAt b (o + (m - 1) * 32) (x.map byt) := fun j u hj => by
    rw [World.cell?_of_block (w := W.drew) (a := ⟨b, _, none⟩) (heap_alloc_old _ _ (by show b < W.heap.size; have := H2.out.size; omega))]
    exact hr j u hj
  have hl2 := el_run hr2 HX.out
  have hz := zeros32 W.drew
  have hst := store_dg hz (by simp) HX.out
  have hs1 : IntKind.i64.wrap ((m : Int) - 1) = ((m - 1 : Nat) : Int) := by rw [IntWalk.i64_in _ (by omega)]; omega
  have hsz : W.heap.size = w.heap.size + 2 := H2.out.size
  have hmc : m ≤ cap + 1 := by omega
  have hmm : m - 1 < m := by omega
  have HVA := Lib.hid hva
  have hth : (W.alloc (.cells ((List.replicate 32 (0 : UInt8)).map byt).toArray 26)).drew.there (w.heap.size + 2) 0 (x.map byt).length := by
    have h := dg_there hz (by simp)
    rw [List.length_map, HX.out, ← hsz]
    exact h
  have hrx : W.rangeAt b (o + (m - 1) * 32) (x.map byt) := hr
  have hu26 := Tryd.underlying26
  have hsx : (Tryd.prog.info? 26).map (·.size) = some (x.map byt).length := by rw [size26, List.length_map, HX.out]
  have hox : ∀ v ∈ x.map byt, v.oneCell' = true := fun v hv => by
    obtain ⟨c, _, rfl⟩ := List.mem_map.1 hv
    rfl
  clear hva hv hq hx h32 hv2 hr hr2 h3 hl1 hl2 hst hz
  go_region_held2 (fun w' => w'.rangeAt b (o + (m - 1) * 32) (x.map byt)) (go_keep_ranges) (fail)
  generalize hV : World.setCells _ _ _ _ = V
  have h3W : Cw w V d x ∧ Below W.heap.size W V := by rw [← hV]; exact cl_world H2.out HX.out
  have H3 := Lib.hid h3W.1
  have HVB := Lib.hid (HVA.out.below (w' := V) ⟨h3W.2.os, h3W.2.tape, h3W.2.output, h3W.2.size, h3W.2.block⟩)
  clear hV h3W HVA hth hrx H2
  have hsd : (Tryd.prog.info? 26).map (·.size) = some (d.map byt).length := by rw [size26, List.length_map, HD.out]
  by_cases hlt : at' < hfx n
  · have hc := HC.out
    have hp := HPL.out
    have hm := HP.out
    have hl := HQL.out
    rw [if_pos hlt] at hc hp
    have hql : q.length = QL at' (hfx n) := by omega
    have HC1 := Lib.hid hc
    have HQL1 := Lib.hid hql
    clear HC HPL HP hc hp hm hl hql HQL
    go_wp2_with (go_at_call 35; refine (fpx_any n hn h64 _).mono ?_; rintro e w4 ⟨rfl, hb4⟩)
    have h4 := H3.out.later hb4
    have h4d := H3.out.later (below_drew hb4)
    have hra := dg_range h4.a
    have hrx := dg_range h4.x
    have C := Lib.hid (HIH.out (hfx n) (by omega) d at' q _ w4.drew (by omega) (by omega) (by omega) HD.out HQ32.out HQL1.out (HVB.out.below (below_drew hb4)) (HK.out.below h4d.below))
    have H4 := Lib.hid h4d
    clear h4 h4d HVB HIH H3
    refine wp_region_held_drew (S := fun w' => w'.rangeAt w.heap.size 0 (d.map byt) ∧ w'.rangeAt (w.heap.size + 2) 0 (x.map byt)) (by kernel_rfl) ⟨hra, hrx⟩ (fun hHeld => ?_)
    refine take_at (i := 0) (v := dgv d) rfl rfl (by kernel_rfl) (by kernel_rfl) (by kernel_rfl) (fun _ _ _ h => h) (yieldsIf_load_mid (by rfl) 26 (.tmp 4) rfl w.heap.size 0 rfl (d.map byt) _ (fun w' h => h.1) Tryd.underlying26 rfl hsd) hHeld ?_
    try simp only [Act.put, List.setIfInBounds_toArray, List.set_cons_zero, List.set_cons_succ]
    refine take_at (i := 1) (v := .int .i64 (at' : Int)) rfl rfl (by kernel_rfl) (by kernel_rfl) (by kernel_rfl) (fun _ _ _ h => h) (Or.inl ⟨by rfl, fun w _ => rfl⟩) hHeld ?_
    try simp only [Act.put, List.setIfInBounds_toArray, List.set_cons_zero, List.set_cons_succ]
    refine take_at (i := 2) (v := .int .i64 (hfx n : Int)) rfl rfl (by kernel_rfl) (by kernel_rfl) (by kernel_rfl) (fun _ _ _ h => h) (Or.inl ⟨by rfl, fun w _ => rfl⟩) hHeld ?_
    try simp only [Act.put, List.setIfInBounds_toArray, List.set_cons_zero, List.set_cons_succ]
    refine take_at (i := 3) (v := .slice (some ⟨b, o, none⟩) (m - 1) cap) rfl rfl (by kernel_rfl) (by kernel_rfl) (by kernel_rfl) (fun _ _ _ h => h) (Or.inl ⟨by rfl, fun w _ => rfl⟩) hHeld ?_
    try simp only [Act.put, List.setIfInBounds_toArray, List.set_cons_zero, List.set_cons_succ]
    refine take_at (i := 5) (v := dgv x) rfl rfl (by kernel_rfl) (by kernel_rfl) (by kernel_rfl) (fun _ _ _ h => h) (yieldsIf_load_mid (by rfl) 26 (.tmp 10) rfl (w.heap.size + 2) 0 rfl (x.map byt) _ (fun w' h => h.2) Tryd.underlying26 rfl hsx) hHeld ?_
    try simp only [Act.put, List.setIfInBounds_toArray, List.set_cons_zero, List.set_cons_succ]
    clear hHeld
    refine wpAnyH_ready (rs := [4]) (by kernel_rfl) (by simp) ?_
    refine AllReadyH.cons rfl (fun K hK => ?_) AllReadyH.nil
    go_simp
    go_at_call 42
    refine C.out.mono ?_
    rintro e w5 ⟨rfl, hb5⟩
    have H5 := Lib.hid (H4.out.later hb5)
    refine hK.out _ _ ⟨dg_range H5.out.a, dg_range H5.out.x⟩ (fun _ => ?_)
    try simp only [Act.put, List.setIfInBounds_toArray, List.set_cons_zero, List.set_cons_succ]
    refine wpAnyH_ready (rs := [6]) (by kernel_rfl) (by simp) ?_
    refine AllReadyH.cons rfl (fun K hK => ?_) AllReadyH.nil
    go_simp
    go_at_call 36
    refine (pair_any sNode (CX d at' (hfx n) q) x w5 (by decide) (CX_len _ _ _ _ (by omega)) HX.out (HK.out.below H5.out.below)).mono ?_
    rintro e w6 ⟨rfl, hb6⟩
    rw [← HC1.out]
    have H6 := Lib.hid (H5.out.later hb6)
    refine hK.out _ _ ⟨dg_range H6.out.a, dg_range H6.out.x⟩ (fun _ => ?_)
    try simp only [Act.put, List.setIfInBounds_toArray, List.set_cons_zero, List.set_cons_succ]
    refine wpAnyH_ready (rs := [7]) (by kernel_rfl) (by simp) ?_
    refine AllReadyH.cons rfl (fun K hK => ?_) AllReadyH.nil
    have hst := store_dg H6.out.z (by simp) (CX_len d at' n p (by omega))
    have hsz := CX_len d at' n p (by omega)
    go_simp
    have H7 := Lib.hid (H6.out.row (r := CX d at' n p))
    refine hK.out _ _ ⟨dg_range H7.out.1, dg_range H7.out.2.1⟩ (fun _ => ?_)
    try simp only [Act.put, List.setIfInBounds_toArray, List.set_cons_zero, List.set_cons_succ]
    refine wpAnyH_done (by kernel_rfl) ?_ _
    clear hst hsz
    go_wp2_with fail
    exact bodyPost_ret (results_cell_row rfl _ _ (w.heap.size + 1) 26 _ (0, 0) _ rfl H7.out.2.2.1 Tryd.underlying26 rfl (dg_size (CX_len _ _ _ _ (by omega)))) rfl ⟨rfl, H7.out.2.2.2⟩
  · have hc := HC.out
    have hp := HPL.out
    have hm := HP.out
    have hl := HQL.out
    rw [if_neg hlt] at hc hp
    have hql : q.length = QL (at' - hfx n) (n - hfx n) := by omega
    have HC1 := Lib.hid hc
    have HQL1 := Lib.hid hql
    clear HC HPL HP hc hp hm hl hql HQL
    have e1 : IntKind.i64.wrap ((at' : Int) - (hfx n : Int)) = ((at' - hfx n : Nat) : Int) := by rw [IntWalk.i64_in _ (by omega)]; omega
    have e2 : IntKind.i64.wrap ((n : Int) - (hfx n : Int)) = ((n - hfx n : Nat) : Int) := by rw [IntWalk.i64_in _ (by omega)]; omega
    go_wp2_with (go_at_call 35; refine (fpx_any n hn h64 _).mono ?_; rintro e w4 ⟨rfl, hb4⟩)
    have h4 := H3.out.later hb4
    have h4d := H3.out.later (below_drew hb4)
    have hra := dg_range h4.a
    have hrx := dg_range h4.x
    have C := Lib.hid (HIH.out (n - hfx n) (by omega) d (at' - hfx n) q _ w4.drew (by omega) (by omega) (by omega) HD.out HQ32.out HQL1.out (HVB.out.below (below_drew hb4)) (HK.out.below h4d.below))
    have H4 := Lib.hid h4d
    clear h4 h4d HVB HIH H3
    refine wp_region_held_drew (S := fun w' => w'.rangeAt w.heap.size 0 (d.map byt) ∧ w'.rangeAt (w.heap.size + 2) 0 (x.map byt)) (by kernel_rfl) ⟨hra, hrx⟩ (fun hHeld => ?_)
    refine take_at (i := 0) (v := dgv x) rfl rfl (by kernel_rfl) (by kernel_rfl) (by kernel_rfl) (fun _ _ _ h => h) (yieldsIf_load_mid (by rfl) 26 (.tmp 10) rfl (w.heap.size + 2) 0 rfl (x.map byt) _ (fun w' h => h.2) Tryd.underlying26 rfl hsx) hHeld ?_
    try simp only [Act.put, List.setIfInBounds_toArray, List.set_cons_zero, List.set_cons_succ]
    refine take_at (i := 1) (v := dgv d) rfl rfl (by kernel_rfl) (by kernel_rfl) (by kernel_rfl) (fun _ _ _ h => h) (yieldsIf_load_mid (by rfl) 26 (.tmp 4) rfl w.heap.size 0 rfl (d.map byt) _ (fun w' h => h.1) Tryd.underlying26 rfl hsd) hHeld ?_
    try simp only [Act.put, List.setIfInBounds_toArray, List.set_cons_zero, List.set_cons_succ]
    refine take_at (i := 2) (v := .int .i64 (at' : Int)) rfl rfl (by kernel_rfl) (by kernel_rfl) (by kernel_rfl) (fun _ _ _ h => h) (Or.inl ⟨by rfl, fun w _ => rfl⟩) hHeld ?_
    try simp only [Act.put, List.setIfInBounds_toArray, List.set_cons_zero, List.set_cons_succ]
    refine take_at (i := 3) (v := .int .i64 (hfx n : Int)) rfl rfl (by kernel_rfl) (by kernel_rfl) (by kernel_rfl) (fun _ _ _ h => h) (Or.inl ⟨by rfl, fun w _ => rfl⟩) hHeld ?_
    try simp only [Act.put, List.setIfInBounds_toArray, List.set_cons_zero, List.set_cons_succ]
    refine take_at (i := 4) (v := .int .i64 ((at' - hfx n : Nat) : Int)) rfl rfl (by kernel_rfl) (by kernel_rfl) (by kernel_rfl) (fun _ _ _ h => h) (Or.inl ⟨by rfl, fun w _ => by go_simp⟩) hHeld ?_
    try simp only [Act.put, List.setIfInBounds_toArray, List.set_cons_zero, List.set_cons_succ]
    refine take_at (i := 5) (v := .int .i64 (n : Int)) rfl rfl (by kernel_rfl) (by kernel_rfl) (by kernel_rfl) (fun _ _ _ h => h) (Or.inl ⟨by rfl, fun w _ => rfl⟩) hHeld ?_
    try simp only [Act.put, List.setIfInBounds_toArray, List.set_cons_zero, List.set_cons_succ]
    refine take_at (i := 6) (v := .int .i64 (hfx n : Int)) rfl rfl (by kernel_rfl) (by kernel_rfl) (by kernel_rfl) (fun _ _ _ h => h) (Or.inl ⟨by rfl, fun w _ => rfl⟩) hHeld ?_
    try simp only [Act.put, List.setIfInBounds_toArray, List.set_cons_zero, List.set_cons_succ]
    refine take_at (i := 7) (v := .int .i64 ((n - hfx n : Nat) : Int)) rfl rfl (by kernel_rfl) (by kernel_rfl) (by kernel_rfl) (fun _ _ _ h => h) (Or.inl ⟨by rfl, fun w _ => by go_simp⟩) hHeld ?_
    try simp only [Act.put, List.setIfInBounds_toArray, List.set_cons_zero, List.set_cons_succ]
    refine take_at (i := 8) (v := .slice (some ⟨b, o, none⟩) (m - 1) cap) rfl rfl (by kernel_rfl) (by kernel_rfl) (by kernel_rfl) (fun _ _ _ h => h) (Or.inl ⟨by rfl, fun w _ => rfl⟩) hHeld ?_
    try simp only [Act.put, List.setIfInBounds_toArray, List.set_cons_zero, List.set_cons_succ]
    clear hHeld
    refine wpAnyH_ready (rs := [9]) (by kernel_rfl) (by simp) ?_
    refine AllReadyH.cons rfl (fun K hK => ?_) AllReadyH.nil
    go_simp
    go_at_call 42
    refine C.out.mono ?_
    rintro e w5 ⟨rfl, hb5⟩
    have H5 := Lib.hid (H4.out.later hb5)
    refine hK.out _ _ ⟨dg_range H5.out.a, dg_range H5.out.x⟩ (fun _ => ?_)
    try simp only [Act.put, List.setIfInBounds_toArray, List.set_cons_zero, List.set_cons_succ]
    refine wpAnyH_ready (rs := [10]) (by kernel_rfl) (by simp) ?_
    refine AllReadyH.cons rfl (fun K hK => ?_) AllReadyH.nil
    go_simp
    go_at_call 36
    refine (pair_any sNode x (CX d (at' - hfx n) (n - hfx n) q) w5 (by decide) HX.out (CX_len _ _ _ _ (by omega)) (HK.out.below H5.out.below)).mono ?_
    rintro e w6 ⟨rfl, hb6⟩
    rw [← HC1.out]
    have H6 := Lib.hid (H5.out.later hb6)
    refine hK.out _ _ ⟨dg_range H6.out.a, dg_range H6.out.x⟩ (fun _ => ?_)
    try simp only [Act.put, List.setIfInBounds_toArray, List.set_cons_zero, List.set_cons_succ]
    refine wpAnyH_ready (rs := [11]) (by kernel_rfl) (by simp) ?_
    refine AllReadyH.cons rfl (fun K hK => ?_) AllReadyH.nil
    have hst := store_dg H6.out.z (by simp) (CX_len d at' n p (by omega))
    have hsz := CX_len d at' n p (by omega)
    go_simp
    have H7 := Lib.hid (H6.out.row (r := CX d at' n p))
    refine hK.out _ _ ⟨dg_range H7.out.1, dg_range H7.out.2.1⟩ (fun _ => ?_)
    try simp only [Act.put, List.setIfInBounds_toArray, List.set_cons_zero, List.set_cons_succ]
    refine wpAnyH_done (by kernel_rfl) ?_ _
    clear hst hsz
    go_wp2_with fail
    exact bodyPost_ret (results_cell_row rfl _ _ (w.heap.size + 1) 26 _ (0, 0) _ rfl H7.out.2.2.1 Tryd.underlying26 rfl (dg_size (CX_len _ _ _ _ (by omega)))) rfl ⟨rfl, H7.out.2.2.2⟩
theorem cx_all : ∀ n, CxOk n := fun n => Nat.strongRecOn n fun n ih => by
  by_cases hn : 2 ≤ n
  · exact cx_two n ih hn
  · intro d at' p v w h1
    obtain rfl : n = 1 := by omega
    exact cx_one d at' p v w h1
set_option maxRecDepth 100000 in
set_option maxHeartbeats 1000000 in
theorem climbx_ok (d : List UInt8) (at' n : Nat) (p : List (List UInt8)) (v : Value) (w : World) (h1 : 1 ≤ n) (h64 : n ≤ 1099511627776) (hat : at' < n) (hd : d.length = 32) (h32 : D32 p) (hp : p.length = QL at' n) (hv : LD w v p) (hk : KOK w) :
    Calls Tryd.prog 22 #[dgv d, .int .i64 (at' : Int), .int .i64 (n : Int), v] w (ClimbR (CX d at' n p) 0 w) := by
  have hform : ∃ q cap, v = .slice q p.length cap := by
    obtain ⟨b, cap, q, rfl, _⟩ := hv
    exact ⟨q, cap, rfl⟩
  obtain ⟨q, cap, rfl⟩ := hform
  have C := Lib.hid (fun (U : World) (hb : Below w.heap.size w U) => cx_all n d at' p _ U h1 h64 hat hd h32 hp (hv.below hb) (hk.below hb))
  have HD := Lib.hid hd
  have HP := Lib.hid (plen_all n h1 h64 at')
  rw [hp] at C ⊢
  have hlt := QL_lt n at' h1
  have c1 : decide ((n : Int) < 1) = false := by simp; omega
  have c2 : decide ((1099511627776 : Int) < (n : Int)) = false := by simp; omega
  have c3 : decide ((at' : Int) < 0) = false := by simp
  have c4 : decide ((n : Int) ≤ (at' : Int)) = false := by simp; omega
  have c5 : ¬ (n ≤ at') := by omega
  clear hv hk hd h32 hp
  go_enter Tryd.func22, Tryd.ntmps22
  have H2 := Lib.hid (two w d)
  go_wp2_with (first
    | (go_at_call 41; refine (HP.out _ hat).mono ?_; rintro e w1 ⟨rfl, hb1⟩; have H3 : Hid (Below w.heap.size w w1 ∧ Dg w1 w.heap.size d ∧ Dg w1 (w.heap.size + 1) (List.replicate 32 0)) := Lib.hid ⟨H2.out.below.trans (hb1.mono (Nat.le_trans (Nat.le_add_right _ 2) (Nat.le_of_eq H2.out.size.symm))), H2.out.a.below hb1, H2.out.z.below hb1⟩; clear hb1)
    | (refine dg_load rfl (.tmp 4) rfl w.heap.size d H3.out.2.1 HD.out rfl ?_)
    | (go_at_call 42; refine (C.out _ H3.out.1).mono ?_; rintro e w2 ⟨rfl, hb2⟩; have hd2 : Dg w2 (w.heap.size + 1) (List.replicate 32 0) := H3.out.2.2.below hb2; have hst := store_dg hd2 (by simp) (CX_len d at' n p h1); have hsz := CX_len d at' n p h1))
  exact bodyPost_ret (res2 rfl _ _ (w.heap.size + 1) _ rfl (setRow_heap _ _ _ _ _ _ hd2) (CX_len d at' n p h1)) rfl ⟨rfl, Chg.below (H3.out.1.trans (hb2.mono H3.out.1.size)) (by have := H3.out.1.size; have := hb2.size; omega) (by omega) (chg_row _ _ _)⟩
set_option maxRecDepth 100000 in
set_option maxHeartbeats 1000000 in
theorem climbx_len (d : List UInt8) (at' n : Nat) (q : Option Addr) (m cap : Nat) (w : World) (h1 : 1 ≤ n) (h64 : n ≤ 1099511627776) (hat : at' < n) (hm : m ≠ QL at' n) :
    Calls Tryd.prog 22 #[dgv d, .int .i64 (at' : Int), .int .i64 (n : Int), .slice q m cap] w (ClimbR zeros 1 w) := by
  have HP := Lib.hid (plen_all n h1 h64 at')
  have c1 : decide ((n : Int) < 1) = false := by simp; omega
  have c2 : decide ((1099511627776 : Int) < (n : Int)) = false := by simp; omega
  have c3 : decide ((at' : Int) < 0) = false := by simp
  have c4 : decide ((n : Int) ≤ (at' : Int)) = false := by simp; omega
  have c5 : ¬ (n ≤ at') := by omega
  have c6 : ((m : Int) == (QL at' n : Int)) = false := by simp; omega
  go_enter Tryd.func22, Tryd.ntmps22
  have H2 := Lib.hid (two w d)
  go_wp2_with (first
    | (go_at_call 41; refine (HP.out _ hat).mono ?_; rintro e w1 ⟨rfl, hb1⟩; have H3 : Hid (Below w.heap.size w w1 ∧ Dg w1 (w.heap.size + 1) (List.replicate 32 0)) := Lib.hid ⟨H2.out.below.trans (hb1.mono (Nat.le_trans (Nat.le_add_right _ 2) (Nat.le_of_eq H2.out.size.symm))), H2.out.z.below hb1⟩; have hs1 := Nat.le_trans (Nat.le_of_eq H2.out.size.symm) hb1.size; clear hb1)
    | (refine dg_store rfl (.tmp 8) (.tmp 33) rfl (w.heap.size + 1) _ zeros H3.out.2 (by simp) (by simp [zeros]) rfl rfl ?_; rintro w2 hd2 hc2))
  exact bodyPost_ret (res2 rfl _ _ (w.heap.size + 1) zeros rfl hd2.out (by simp [zeros])) rfl ⟨rfl, Chg.below H3.out.1 (by omega) (by omega) hc2⟩
end Go.Proofs.YtekboemijafplaaDoor
