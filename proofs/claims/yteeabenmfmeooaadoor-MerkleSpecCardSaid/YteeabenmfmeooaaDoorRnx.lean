/-
  Merkle, the reference: the next row; the root.
-/
import Derived.Test.YteeabenmfmeooaaDoorRTag
import Derived.Test.YteeabenmfmeooaaDoorNx
import Derived.Test.YteeabenmfmeooaaDoorFd
import Derived.Test.YteeabenmfmeooaaDoorAp
import Derived.Test.YteeabenmfmeooaaDoorPp
import Derived.Test.YteeabenmfmeooaaDoorSn
namespace Go.Proofs.YteeabenmfmeooaaDoor
open Go Go.RowKit
set_option maxRecDepth 100000 in
set_option maxHeartbeats 1000000 in
theorem rtext_any (s : ByteArray) (v : Value) (l : List UInt8) (w : World) (hs : s.size ≤ 900000) (hv : BV w v l) (hl : l.length ≤ 900000) : Calls Tryd.prog 45 #[.string s, v] w (TxtR (sha (bts s) ++ l) w) := by
  have HV := Lib.hid hv
  obtain ⟨b, cap, p, rfl, _⟩ := hv
  have hcv := fun w1 : World => Lib.run_convert_string_bytes (P := Tryd.prog) w1 9 34 5 s Tryd.underlying9 Tryd.underlying34 Tryd.underlying5
  go_enter Tryd.func45, Tryd.ntmps45
  go_wp2_with fail
  refine (rsum_any _ (bts s) _ (conv_bv_at _ _ (by simp) s (by omega)) (by rw [bts_len]; omega)).mono ?_
  rintro e w1 ⟨rfl, hb1⟩
  have HB2 := Lib.hid ((conv_below w s).trans (hb1.mono (by rw [Lib.bytesWorld_size]; omega)))
  clear hb1 hcv
  go_wp2_with (first
    | (have _ := HB5; refine bytes_own rfl (.tmp 11) (.tmp 12) rfl v5 (.slice p l.length cap) (sha (bts s)) l rfl ho5.out rfl (HV.out.below HB5.out) (by rw [sha_len]; omega) ?_; rintro v6 w6 ho6 hg6 hv6'; have HB6 := Lib.hid (grown_below HB5.out HB5.out.size hg6 hv5); have hv6 := own_from hv5 HB5.out.size hv6'; clear hg6 hv6')
    | (have _ := hb3; refine bytes_own rfl (.tmp 9) (.tmp 10) rfl (.slice (some ⟨w2.heap.size, 0, none⟩) 0 0) (.slice (some ⟨w1.heap.size, 0, none⟩) 32 32) [] (sha (bts s)) rfl (own_empty w2) rfl (dg_bv (hd2.out.below (one_new w2 _)) (sha_len _)) (by rw [sha_len]; simp) ?_; rintro v5 w5 ho5 hg5 hv5'
       have hbx := hb3.out.trans ((one_new w2 (.cells #[] 5)).mono hb3.out.size)
       have HB5 := Lib.hid (grown_below hbx hbx.size hg5 (fun k e => by cases e; exact hb3.out.size))
       have hv5 := own_from (v := .slice (some ⟨w2.heap.size, 0, none⟩) 0 0) (m := w.heap.size) (fun k e => by cases e; exact hb3.out.size) hbx.size hv5'
       clear hg5 hv5' hbx)
    | (refine dg_store rfl (.tmp 5) (.tmp 8) rfl w1.heap.size _ _ (zeros32 w1) (by simp) (sha_len _) rfl rfl ?_; rintro w2 hd2 hc2; have hb3 := Lib.hid (HB2.out.trans ((chg_alloc_below hc2 rfl).mono HB2.out.size)); clear hc2))
  go_ret
  exact ⟨v6, rfl, Lib.hid ho6.out, hv6, HB6.out⟩
theorem wp_only' {P : Program} {c : Code} {K : Act → World → Prop} {Q' : Exit → Act → World → Prop} {a : Act} {w : World} (h : c.wp P (Exit.then K (fun _ _ _ => False)) a w) : c.wp P (Exit.then K Q') a w :=
  Code.wp_mono (fun e a w h => by cases e <;> first | exact h | exact False.elim h) h
theorem two_world (w : World) (a b : List UInt8) (o1 o2 : Obj) (h1 : o1 = .cells (a.map byt).toArray 30) (h2 : o2 = .cells (b.map byt).toArray 30) : ∃ W, (w.alloc o1).alloc o2 = W ∧ Below w.heap.size w W ∧ Dg W w.heap.size a ∧ Dg W (w.heap.size + 1) b := by
  subst h1
  subst h2
  refine ⟨_, rfl, ((Below.refl _ w).alloc (Nat.le_refl _) _).alloc (by simp) _, (dg_new w a).below (one_new _ _), ?_⟩
  have := dg_new (w.alloc (.cells (a.map byt).toArray 30)) b
  rw [World.size_alloc] at this
  exact this
set_option maxRecDepth 100000 in
set_option maxHeartbeats 2000000 in
theorem rtwo_any (x y : List UInt8) (w : World) (hx : x.length = 32) (hy : y.length = 32) : Calls Tryd.prog 46 #[dgv x, dgv y] w (TxtR (nodeT x y) w) := by
  go_enter Tryd.func46, Tryd.ntmps46
  go_wp2_with fail
  obtain ⟨W, hW, hB, hx', hy'⟩ := two_world w x y _ _ rfl rfl
  rw [hW]
  clear hW
  have HB := Lib.hid hB
  have HX := Lib.hid hx'
  have HY := Lib.hid hy'
  have HTX := Lib.hid fun (U : World) (v : Value) (ho : Own U v ((x ++ y).map byt)) => rtext_any sNode v (x ++ y) U (by decide) (own_bv ho) (by rw [List.length_append, hx, hy]; omega)
  clear hB hx' hy'
  have B0 : Hid (Below W.heap.size W W.drew) := Lib.hid (below_drew (Below.refl _ _))
  refine wp_only' ?_
  refine wp_region_held_drew (S := fun _ => True) (by kernel_rfl) trivial (fun hHeld => ?_)
  refine take_at (i := 1) (k := 6) (v := .slice (some ⟨w.heap.size, 0, none⟩) 32 32) rfl rfl (by kernel_rfl) (by kernel_rfl) (by kernel_rfl) (fun _ _ _ h => h) (Or.inl ⟨by rfl, fun w _ => by go_simp⟩) hHeld ?_
  try simp only [Act.put, List.setIfInBounds_toArray, List.set_cons_zero, List.set_cons_succ]
  refine take_at (i := 3) (k := 8) (v := .slice (some ⟨w.heap.size + 1, 0, none⟩) 32 32) rfl rfl (by kernel_rfl) (by kernel_rfl) (by kernel_rfl) (fun _ _ _ h => h) (Or.inl ⟨by rfl, fun w _ => by go_simp⟩) hHeld ?_
  try simp only [Act.put, List.setIfInBounds_toArray, List.set_cons_zero, List.set_cons_succ]
  clear hHeld
  refine wpAnyH_ready (rs := [0]) (by kernel_rfl) (by simp) ?_
  refine AllReadyH.cons rfl (fun K hK => ?_) AllReadyH.nil
  rw [if_pos (by rfl)]
  refine bs0_op rfl rfl ?_
  rintro U1 gv1 ho1 hba1 hgv1
  have nw1 : ∀ k, (Value.slice (some ⟨gv1, 0, none⟩) 0 0).ownBlock = some k → W.heap.size ≤ k := fun k e => by cases e; exact Nat.le_trans B0.out.size hgv1
  have B1 := Lib.hid (B0.out.trans (hba1.mono B0.out.size))
  refine hK.out _ _ (Lib.hid trivial : Hid True).out (fun hHeld => ?_)
  try simp only [Act.put, List.setIfInBounds_toArray, List.set_cons_zero, List.set_cons_succ]
  clear hK K
  clear hHeld
  refine wpAnyH_ready (rs := [2]) (by kernel_rfl) (by simp) ?_
  refine AllReadyH.cons rfl (fun K hK => ?_) AllReadyH.nil
  rw [if_pos (by rfl)]
  refine bytes_op (.tmp 5) (.tmp 6) rfl (.slice (some ⟨gv1, 0, none⟩) 0 0) (.slice (some ⟨w.heap.size, 0, none⟩) 32 32) [] x rfl ho1.out rfl (dg_bv (HX.out.below B1.out) hx) (by rw [hx]; simp) ?_
  rintro v2 U2 ho2 hg2 hv2
  have nw2 : ∀ k, Value.ownBlock v2 = some k → W.heap.size ≤ k := fun k e => by
    rcases hv2 with h | ⟨k', h, h'⟩
    · exact nw1 k (h ▸ e)
    · rw [h] at e; cases e; exact Nat.le_trans B1.out.size h'
  have B2 := Lib.hid (grown_below B1.out B1.out.size hg2 nw1)
  refine hK.out _ _ (Lib.hid trivial : Hid True).out (fun hHeld => ?_)
  try simp only [Act.put, List.setIfInBounds_toArray, List.set_cons_zero, List.set_cons_succ]
  clear hK K
  clear hHeld
  refine wpAnyH_ready (rs := [4]) (by kernel_rfl) (by simp) ?_
  refine AllReadyH.cons rfl (fun K hK => ?_) AllReadyH.nil
  rw [if_pos (by rfl)]
  refine bytes_op (.tmp 7) (.tmp 8) rfl v2 (.slice (some ⟨w.heap.size + 1, 0, none⟩) 32 32) x y rfl ho2.out rfl (dg_bv (HY.out.below B2.out) hy) (by rw [hx, hy]; omega) ?_
  rintro v3 U3 ho3 hg3 hv3
  have nw3 : ∀ k, Value.ownBlock v3 = some k → W.heap.size ≤ k := fun k e => by
    rcases hv3 with h | ⟨k', h, h'⟩
    · exact nw2 k (h ▸ e)
    · rw [h] at e; cases e; exact Nat.le_trans B2.out.size h'
  have B3 := Lib.hid (grown_below B2.out B2.out.size hg3 nw2)
  refine hK.out _ _ (Lib.hid trivial : Hid True).out (fun hHeld => ?_)
  try simp only [Act.put, List.setIfInBounds_toArray, List.set_cons_zero, List.set_cons_succ]
  clear hK K
  clear hHeld
  refine wpAnyH_ready (rs := [5]) (by kernel_rfl) (by simp) ?_
  refine AllReadyH.cons rfl (fun K hK => ?_) AllReadyH.nil
  rw [if_pos (by rfl)]
  go_simp
  go_at_call 45
  refine (HTX.out _ _ ho3.out).mono ?_
  rintro e U4 ⟨va4, rfl, hoa4, hna4, hba4⟩
  obtain ⟨pz4, mz4, cz4, rfl⟩ := own_slice hoa4.out
  have nw4 : ∀ k, Value.ownBlock (.slice pz4 mz4 cz4) = some k → W.heap.size ≤ k := fun k e => Nat.le_trans B3.out.size (hna4 k e)
  have B4 := Lib.hid (B3.out.trans (hba4.mono B3.out.size))
  refine hK.out _ _ (Lib.hid trivial : Hid True).out (fun hHeld => ?_)
  try simp only [Act.put, List.setIfInBounds_toArray, List.set_cons_zero, List.set_cons_succ]
  clear hK K
  refine take_at (i := 6) (k := 4) (v := (.slice pz4 mz4 cz4)) rfl rfl (by kernel_rfl) (by kernel_rfl) (by kernel_rfl) (fun _ _ _ h => h) (Or.inl ⟨by rfl, fun w _ => by go_simp⟩) hHeld ?_
  try simp only [Act.put, List.setIfInBounds_toArray, List.set_cons_zero, List.set_cons_succ]
  clear hHeld
  refine wpAnyH_done (by kernel_rfl) ?_ _
  go_wp2_with fail
  go_ret
  exact ⟨_, rfl, hoa4, fun k e => Nat.le_trans HB.out.size (nw4 k e), HB.out.trans (B4.out.mono HB.out.size)⟩
/-- a row of one's own without digests -/
theorem row_empty (w : World) : RowI w (w.alloc (.cells #[] 30)) (.slice (some ⟨w.heap.size, 0, none⟩) 0 0) [] :=
  ⟨.inr ⟨w.heap.size, 0, rfl, ⟨Nat.le_refl _, by unfold maxLen; omega, by simp, rfl, fun j hj => by omega, fun j => by simp, fun j u hu => by cases hu⟩⟩, fun k e => by cases e; exact Nat.le_refl _, one_new _ _⟩
set_option maxRecDepth 100000 in
set_option maxHeartbeats 2000000 in
theorem rfirst_any (v : Value) (l : List (List UInt8)) (w : World) (hv' : LB w v l) (hn : l.length ≤ 100000) (h1 : ∀ x ∈ l, x.length ≤ 900000) : Calls Tryd.prog 25 #[v] w (RowR (l.map leafD) w) := by
  have HV := Lib.hid hv'
  have H1 := Lib.hid h1
  obtain ⟨b, cap, p, rfl, hc1, hc2, _, hc4⟩ := hv'
  have HC4 := Lib.hid hc4
  unfold maxLen at hc2
  obtain ⟨n, hnn⟩ : ∃ n, n = l.length := ⟨_, rfl⟩
  rw [← hnn] at hc1 hn HV ⊢
  clear h1 hc4
  go_enter Tryd.func25, Tryd.ntmps25
  go_wp2_with fail
  have hT0 : Hid (RowI w (w.alloc (.cells #[] 30)) (.slice (some ⟨w.heap.size, 0, none⟩) 0 0) ((l.map leafD).take 0)) := Lib.hid (row_empty w)
  go_loopw [3, 4] (fun t i wr => ∃ (k : Nat) (u : Value), u = t ∧ k ≤ n ∧ i = .int .i64 k ∧ Hid (RowI w wr u ((l.map leafD).take k))) (fun _ i _ => n - (intOf i).toNat)
  case atStart => exact ⟨0, _, rfl, Nat.zero_le _, rfl, hT0⟩
  case round =>
    clear hT0
    obtain ⟨k, u, rfl, hk, rfl, HT⟩ := hrel
    by_cases hlt : k < n
    · have hltI : (k : Int) < (n : Int) := by omega
      obtain ⟨x, hx⟩ : ∃ x, l[k]? = some x := ⟨_, List.getElem?_eq_getElem (by omega)⟩
      have hxl := H1.out x (List.mem_of_getElem? hx)
      rcases HC4.out with hnil | ⟨o, rfl, hblt, hcc⟩
      · rw [hnil] at hnn; simp at hnn; omega
      obtain ⟨vx, hvx, hbx⟩ := hcc k x hx
      have hcw := (HT.out.below.cell (p := ⟨b, o + k, none⟩) hblt).trans hvx
      have HBX := Lib.hid (hbx.below (HT.out.below.mono (Nat.le_refl _)))
      have hlk : (((l.map leafD).take k) ++ [leafD x]) = (l.map leafD).take (k + 1) := by rw [List.take_add_one, List.getElem?_map, hx]; simp
      have hlen : ((l.map leafD).take k).length ≤ 1000000 := by simp; omega
      have HLK := Lib.hid hlk
      have HLEN := Lib.hid hlen
      clear hx hcc hvx hbx hlk hlen
      obtain ⟨p0, c0, m0, hvf⟩ : ∃ p0 c0 m0, vx = .slice p0 m0 c0 := by
        obtain ⟨_, c0, p0, e, _⟩ := HBX.out
        exact ⟨p0, c0, _, e⟩
      subst hvf
      go_wp2_with (first
        | (go_at_call 45; refine (rtext_any sLeaf _ x wr (by decide) HBX.out hxl).mono ?_; rintro e w3 ⟨vt, rfl, ht3, hn3, hb3⟩; have HT3 := Lib.hid (HT.out.later hb3))
        | (go_at_call 44; refine (rsum_any vt (leafT x) w3 (own_bv ht3.out) (by rw [leafT_len]; omega)).mono ?_; rintro e w4 ⟨rfl, hb4⟩; have HT4 := Lib.hid (HT3.out.later hb4))
        | (refine wpList_bs1 rfl 18 rfl (leafD x) rfl (sha_len _) ?_; rintro w5 hv5 hb5; have HT5 := Lib.hid (HT4.out.later hb5))
        | (refine wpList_add rfl 12 19 rfl _ _ rfl rfl _ (leafD x) HT5.out.own hv5.out HLEN.out ?_; rintro v6 w6 ho6 hg6 hn6; have HT6 := Lib.hid (HT5.out.next ho6 hg6 hn6)))
      rw [HLK.out] at HT6
      go_roundw
      case rel => exact ⟨k + 1, by omega, by omega, HT6⟩
      case measure => simp [intOf]; omega
    · have hltI : ¬ (k : Int) < (n : Int) := by omega
      go_wp2_with fail
      have hT := HT.out
      rw [List.take_of_length_le (by rw [List.length_map]; omega)] at hT
      go_ret
      exact ⟨_, rfl, Lib.hid hT⟩
end Go.Proofs.YteeabenmfmeooaaDoor
namespace Go.Proofs.YteeabenmfmeooaaDoor
open Go Go.RowKit
theorem wp_norm {P : Program} {c : Code} {Q : Exit → Act → World → Prop} {a : Act} {w : World} (h : c.wp P (Exit.then (fun a w => Q .normal a w) (fun _ _ _ => False)) a w) : c.wp P Q a w :=
  Code.wp_mono (fun e a w h => by cases e <;> first | exact h | exact False.elim h) h
theorem next_take {l : List (List UInt8)} {k : Nat} (h : 2 * k < l.length) : (nextL l).take k ++ [joinD (piece l k)] = (nextL l).take (k + 1) := by
  rw [List.take_add_one, nextL_at h]
  rfl
set_option maxRecDepth 100000 in
set_option maxHeartbeats 4000000 in
theorem rnext_any (v : Value) (l : List (List UInt8)) (w : World) (hv' : LD w v l) (h32 : D32 l) (hn : l.length ≤ 100000) : Calls Tryd.prog 26 #[v] w (RowR (nextL l) w) := by
  have HV := Lib.hid hv'
  have H32 := Lib.hid h32
  obtain ⟨b, cap, p, rfl, hc1, hc2, _, hc4⟩ := hv'
  have HC4 := Lib.hid hc4
  unfold maxLen at hc2
  obtain ⟨n, hnn⟩ : ∃ n, n = l.length := ⟨_, rfl⟩
  have HN := Lib.hid hnn
  rw [← hnn] at hc1 hn HV ⊢
  clear h32 hc4 hnn
  go_enter Tryd.func26, Tryd.ntmps26
  go_wp2_with fail
  have hT0 : Hid (RowI w (w.alloc (.cells #[] 30)) (.slice (some ⟨w.heap.size, 0, none⟩) 0 0) ((nextL l).take 0)) := Lib.hid (row_empty w)
  go_loopw [3, 4] (fun t i wr => ∃ (k m : Nat) (u : Value), u = t ∧ m = 2 * k ∧ k ≤ (n + 1) / 2 ∧ i = .int .i64 m ∧ Hid (RowI w wr u ((nextL l).take k))) (fun _ i _ => n + 1 - (intOf i).toNat)
  case atStart => exact ⟨0, 0, _, rfl, rfl, Nat.zero_le _, rfl, hT0⟩
  case round =>
    clear hT0
    obtain ⟨k, m, u, rfl, hmk, hk, rfl, HT⟩ := hrel
    have HMK := Lib.hid hmk
    have f1 : IntKind.i64.wrap ((m : Int) + 1) = ((m + 1 : Nat) : Int) := by rw [IntKind.wrap_i64]; omega
    have f2 : IntKind.i64.wrap ((m : Int) + 2) = ((m + 2 : Nat) : Int) := by rw [IntKind.wrap_i64]; omega
    by_cases hlt : m < n
    · have hltI : (m : Int) < (n : Int) := by omega
      rcases HC4.out with hnil | ⟨o, rfl, hblt, hra⟩
      · have := HN.out; rw [hnil] at this; simp at this; omega
      obtain ⟨d, hd⟩ : ∃ d, l[m]? = some d := ⟨_, List.getElem?_eq_getElem (by have := HN.out; omega)⟩
      have hd32 : d.length = 32 := H32.out d (List.mem_of_getElem? hd)
      have hlk := next_take (l := l) (k := k) (by have := HN.out; omega)
      have hlen : ((nextL l).take k).length ≤ 1000000 := by rw [List.length_take]; omega
      have HLK := Lib.hid hlk
      have HLEN := Lib.hid hlen
      have hr1 := HV.out.at H32.out m d hd
      by_cases h2 : m + 1 < n
      · have h2I : ((m + 1 : Nat) : Int) < (n : Int) := by omega
        obtain ⟨f, hf⟩ : ∃ f, l[m + 1]? = some f := ⟨_, List.getElem?_eq_getElem (by have := HN.out; omega)⟩
        have hf32 : f.length = 32 := H32.out f (List.mem_of_getElem? hf)
        have hr2 := HV.out.at H32.out (m + 1) f hf
        have hD : joinD (piece l k) = sha (nodeT d f) := by rw [piece_two (d := d) (f := f) (by rw [← hmk]; exact hd) (by rw [← hmk]; exact hf), joinD_two]
        rw [hD] at HLK
        have hnl := nodeT_len hd32 hf32
        have hSB : Hid (∀ U, Below w.heap.size w U → U.rangeAt b (o + m * 32) (d.map byt) ∧ U.rangeAt b (o + (m + 1) * 32) (f.map byt)) := Lib.hid fun U hb => ⟨range_below hr1 hb, range_below hr2 hb⟩
        have HTW := Lib.hid fun (U : World) => rtwo_any d f U hd32 hf32
        have HSM := Lib.hid fun (U : World) (v : Value) (ho : Own U v ((nodeT d f).map byt)) => rsum_any v (nodeT d f) U (own_bv ho) (by rw [hnl]; omega)
        have hDl := sha_len (nodeT d f)
        unfold ShaR at HSM
        generalize sha (nodeT d f) = D at *
        have B0 : Hid (Below w.heap.size w wr.drew) := Lib.hid (below_drew HT.out.below)
        have R0 := Lib.hid (HT.out.later (below_drew (Below.refl _ _)))
        have S0 := Lib.hid (hSB.out _ B0.out)
        have hrl : ((nextL l).take k).length = ((nextL l).take k).length := rfl
        have hb1 : (m : Int) < (n : Int) := by omega
        clear hr1 hr2 hd hf hlk hlen hD hmk
        go_upto_region 6 with fail
        refine wp_norm ?_
        refine wp_region_held_drew (S := fun U => U.rangeAt b (o + m * 32) (d.map byt) ∧ U.rangeAt b (o + (m + 1) * 32) (f.map byt)) (by kernel_rfl) S0.out (fun hHeld => ?_)
        refine take_at (i := 0) (k := 17) (v := u) rfl rfl (by kernel_rfl) (by kernel_rfl) (by kernel_rfl) (fun _ _ _ h => h) (Or.inl ⟨by rfl, fun w _ => by go_simp⟩) hHeld ?_
        try simp only [Act.put, List.setIfInBounds_toArray, List.set_cons_zero, List.set_cons_succ]
        refine take_at (i := 1) (k := 18) (v := .slice (some ⟨b, o, none⟩) n cap) rfl rfl (by kernel_rfl) (by kernel_rfl) (by kernel_rfl) (fun _ _ _ h => h) (Or.inl ⟨by rfl, fun w _ => by go_simp⟩) hHeld ?_
        try simp only [Act.put, List.setIfInBounds_toArray, List.set_cons_zero, List.set_cons_succ]
        refine take_at (i := 2) (k := 19) (v := .int .i64 (m : Int)) rfl rfl (by kernel_rfl) (by kernel_rfl) (by kernel_rfl) (fun _ _ _ h => h) (Or.inl ⟨by rfl, fun w _ => by go_simp⟩) hHeld ?_
        try simp only [Act.put, List.setIfInBounds_toArray, List.set_cons_zero, List.set_cons_succ]
        refine take_at (i := 3) (k := 20) (v := .pointer (some ⟨b, o + m * 32, none⟩)) rfl rfl (by kernel_rfl) (by kernel_rfl) (by kernel_rfl) (fun _ _ _ h => h) (Or.inl ⟨by rfl, fun w _ => by go_simp <;> (intro h; omega)⟩) hHeld ?_
        try simp only [Act.put, List.setIfInBounds_toArray, List.set_cons_zero, List.set_cons_succ]
        refine take_at (i := 4) (k := 21) (v := dgv d) rfl rfl (by kernel_rfl) (by kernel_rfl) (by kernel_rfl) (fun _ _ _ h => h) (yieldsIf_load_mid (by rfl) 30 (.tmp 20) rfl b (o + m * 32) rfl (d.map byt) _ (fun w' h => h.1) Tryd.underlying30 rfl (el_size hd32)) hHeld ?_
        try simp only [Act.put, List.setIfInBounds_toArray, List.set_cons_zero, List.set_cons_succ]
        refine take_at (i := 5) (k := 22) (v := .slice (some ⟨b, o, none⟩) n cap) rfl rfl (by kernel_rfl) (by kernel_rfl) (by kernel_rfl) (fun _ _ _ h => h) (Or.inl ⟨by rfl, fun w _ => by go_simp⟩) hHeld ?_
        try simp only [Act.put, List.setIfInBounds_toArray, List.set_cons_zero, List.set_cons_succ]
        refine take_at (i := 6) (k := 23) (v := .int .i64 (m : Int)) rfl rfl (by kernel_rfl) (by kernel_rfl) (by kernel_rfl) (fun _ _ _ h => h) (Or.inl ⟨by rfl, fun w _ => by go_simp⟩) hHeld ?_
        try simp only [Act.put, List.setIfInBounds_toArray, List.set_cons_zero, List.set_cons_succ]
        refine take_at (i := 7) (k := 24) (v := .int .i64 ((m + 1 : Nat) : Int)) rfl rfl (by kernel_rfl) (by kernel_rfl) (by kernel_rfl) (fun _ _ _ h => h) (Or.inl ⟨by rfl, fun w _ => by go_simp⟩) hHeld ?_
        try simp only [Act.put, List.setIfInBounds_toArray, List.set_cons_zero, List.set_cons_succ]
        refine take_at (i := 8) (k := 25) (v := .pointer (some ⟨b, o + (m + 1) * 32, none⟩)) rfl rfl (by kernel_rfl) (by kernel_rfl) (by kernel_rfl) (fun _ _ _ h => h) (Or.inl ⟨by rfl, fun w _ => by go_simp <;> (intro h; omega)⟩) hHeld ?_
        try simp only [Act.put, List.setIfInBounds_toArray, List.set_cons_zero, List.set_cons_succ]
        refine take_at (i := 9) (k := 26) (v := dgv f) rfl rfl (by kernel_rfl) (by kernel_rfl) (by kernel_rfl) (fun _ _ _ h => h) (yieldsIf_load_mid (by rfl) 30 (.tmp 25) rfl b (o + (m + 1) * 32) rfl (f.map byt) _ (fun w' h => h.2) Tryd.underlying30 rfl (el_size hf32)) hHeld ?_
        try simp only [Act.put, List.setIfInBounds_toArray, List.set_cons_zero, List.set_cons_succ]
        clear hHeld
        refine wpAnyH_ready (rs := [10]) (by kernel_rfl) (by simp) ?_
        refine AllReadyH.cons rfl (fun K hK => ?_) AllReadyH.nil
        rw [if_pos (by rfl)]
        go_simp
        go_at_call 46
        refine (HTW.out _).mono ?_
        rintro e U1 ⟨vt, rfl, hot, hnt, hba1⟩
        have B1 := Lib.hid (B0.out.trans (hba1.mono B0.out.size))
        have R1 := Lib.hid (R0.out.later hba1)
        have S1 := Lib.hid (hSB.out _ B1.out)
        refine hK.out _ _ S1.out (fun hHeld => ?_)
        try simp only [Act.put, List.setIfInBounds_toArray, List.set_cons_zero, List.set_cons_succ]
        clear hK K
        clear hHeld
        refine wpAnyH_ready (rs := [11]) (by kernel_rfl) (by simp) ?_
        refine AllReadyH.cons rfl (fun K hK => ?_) AllReadyH.nil
        rw [if_pos (by rfl)]
        go_simp
        go_at_call 44
        refine (HSM.out _ _ hot.out).mono ?_
        rintro e U2 ⟨rfl, hba2⟩
        have B2 := Lib.hid (B1.out.trans (hba2.mono B1.out.size))
        have R2 := Lib.hid (R1.out.later hba2)
        have S2 := Lib.hid (hSB.out _ B2.out)
        refine hK.out _ _ S2.out (fun hHeld => ?_)
        try simp only [Act.put, List.setIfInBounds_toArray, List.set_cons_zero, List.set_cons_succ]
        clear hK K
        clear hHeld
        refine wpAnyH_ready (rs := [12]) (by kernel_rfl) (by simp) ?_
        refine AllReadyH.cons rfl (fun K hK => ?_) AllReadyH.nil
        rw [if_pos (by rfl)]
        refine bs1_op 28 rfl D rfl hDl ?_
        rintro U3 hvv hba3
        have B3 := Lib.hid (B2.out.trans (hba3.mono B2.out.size))
        have R3 := Lib.hid (R2.out.later hba3)
        have S3 := Lib.hid (hSB.out _ B3.out)
        refine hK.out _ _ S3.out (fun hHeld => ?_)
        try simp only [Act.put, List.setIfInBounds_toArray, List.set_cons_zero, List.set_cons_succ]
        clear hK K
        clear hHeld
        refine wpAnyH_ready (rs := [13]) (by kernel_rfl) (by simp) ?_
        refine AllReadyH.cons rfl (fun K hK => ?_) AllReadyH.nil
        rw [if_pos (by rfl)]
        refine add_op 17 29 rfl u _ rfl rfl _ D R3.out.own hvv.out HLEN.out ?_
        rintro rv2 U4 ho4 hg4 hn4
        have R4 := Lib.hid (R3.out.next ho4 hg4 hn4)
        have B4 := Lib.hid R4.out.below
        have S4 := Lib.hid (hSB.out _ B4.out)
        refine hK.out _ _ S4.out (fun hHeld => ?_)
        try simp only [Act.put, List.setIfInBounds_toArray, List.set_cons_zero, List.set_cons_succ]
        clear hK K
        refine take_at (i := 14) (k := 3) (v := rv2) rfl rfl (by kernel_rfl) (by kernel_rfl) (by kernel_rfl) (fun _ _ _ h => h) (Or.inl ⟨by rfl, fun w _ => by go_simp⟩) hHeld ?_
        try simp only [Act.put, List.setIfInBounds_toArray, List.set_cons_zero, List.set_cons_succ]
        clear hHeld
        refine wpAnyH_done (by kernel_rfl) ?_ _
        go_wp2_with fail
        have HT6 := R4
        rw [HLK.out] at HT6
        go_roundw
        case rel => exact ⟨k + 1, m + 2, _, rfl, by have := HMK.out; omega, by have := HMK.out; omega, by go_num, HT6⟩
        case measure => simp [intOf]; omega
      · have h2I : ¬ ((m + 1 : Nat) : Int) < (n : Int) := by omega
        have hD : joinD (piece l k) = d := by rw [piece_one (d := d) (by have := HN.out; omega) (by rw [← hmk]; exact hd), joinD_one]
        rw [hD] at HLK
        have HR := Lib.hid (range_below hr1 HT.out.below)
        clear hr1 hd hlk hlen hD hmk
        go_wp2_with (first
          | (refine el_load rfl (.tmp 34) rfl b (o + m * 32) d HR.out hd32 rfl ?_)
          | (refine wpList_bs1 rfl 35 rfl d rfl hd32 ?_; rintro w5 hv5 hb5; have HT5 := Lib.hid (HT.out.later hb5))
          | (refine wpList_add rfl 31 36 rfl _ _ rfl rfl _ d HT5.out.own hv5.out HLEN.out ?_; rintro v6 w6 ho6 hg6 hn6; have HT6 := Lib.hid (HT5.out.next ho6 hg6 hn6)))
        rw [HLK.out] at HT6
        go_roundw
        case rel => exact ⟨k + 1, m + 2, _, rfl, by have := HMK.out; omega, by have := HMK.out; omega, by go_num, HT6⟩
        case measure => simp [intOf]; omega
    · have hltI : ¬ (m : Int) < (n : Int) := by omega
      clear hmk
      go_wp2_with fail
      have hT := HT.out
      rw [List.take_of_length_le (by rw [nextL_len]; have := HN.out; have := HMK.out; omega)] at hT
      go_ret
      exact ⟨_, rfl, Lib.hid hT⟩
end Go.Proofs.YteeabenmfmeooaaDoor
