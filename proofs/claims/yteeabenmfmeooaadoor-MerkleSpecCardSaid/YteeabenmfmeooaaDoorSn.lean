/-
  Merkle: the chapter's examples.
-/
import Derived.Test.YteeabenmfmeooaaDoorSa
namespace Go.Proofs.YteeabenmfmeooaaDoor
open Go Go.RowKit
theorem wp_only {P : Program} {c : Code} {K : Act → World → Prop} {Q' : Exit → Act → World → Prop} {a : Act} {w : World} (h : c.wp P (Exit.then K (fun _ _ _ => False)) a w) : c.wp P (Exit.then K Q') a w :=
  Code.wp_mono (fun e a w h => by cases e <;> first | exact h | exact False.elim h) h
theorem ld_nil (w : World) : LD w (.slice none 0 0) [] := ⟨0, 0, none, rfl, Nat.le_refl _, Nat.zero_le _, fun _ => rfl, .inl rfl⟩
theorem bv_one (w : World) (c : UInt8) : BV (w.alloc (.cells #[byt c] 5)) (.slice (some ⟨w.heap.size, 0, none⟩) 1 1) [c] :=
  ⟨w.heap.size, 1, _, rfl, Nat.le_refl _, by simp, (fun e => by cases e), .inr ⟨0, rfl, by simp, fun j x hj => by
    rw [Nat.zero_add, World.cell?_alloc_new]
    match j, hj with
    | 0, hj => simp at hj; subst hj; rfl⟩⟩
/-- three leaves of one byte each -/
theorem lb3 (W : World) (k : Nat) (hk : k ≤ 3) : LB ((((W.alloc (.cells #[byt 1] 5)).alloc (.cells #[byt 2] 5)).alloc (.cells #[byt 3] 5)).alloc (.cells #[.slice (some ⟨W.heap.size, 0, none⟩) 1 1, .slice (some ⟨W.heap.size + 1, 0, none⟩) 1 1, .slice (some ⟨W.heap.size + 1 + 1, 0, none⟩) 1 1] 34)) (.slice (some ⟨W.heap.size + 1 + 1 + 1, 0, none⟩) k 3) (([[1], [2], [3]] : List (List UInt8)).take k) := by
  have b1 := bv_one W 1
  have b2 := bv_one (W.alloc (.cells #[byt 1] 5)) 2
  have b3 := bv_one ((W.alloc (.cells #[byt 1] 5)).alloc (.cells #[byt 2] 5)) 3
  simp only [World.size_alloc] at b1 b2 b3
  refine ⟨W.heap.size + 1 + 1 + 1, 3, _, ?_, by simp; omega, by unfold maxLen; omega, (fun e => by cases e), .inr ⟨0, rfl, by simp, fun j x hj => ?_⟩⟩
  · have : (([[1], [2], [3]] : List (List UInt8)).take k).length = k := by rw [List.length_take]; simp; omega
    rw [this]
  · have hj3 : ([[1], [2], [3]] : List (List UInt8))[j]? = some x := by
      rw [List.getElem?_take] at hj
      split at hj
      · exact hj
      · cases hj
    rw [Nat.zero_add]
    match j, hj3 with
    | 0, e => simp at e; subst e; exact ⟨_, by go_simp, ((b1.below (one_new _ _)).below (one_new _ _)).below (one_new _ _)⟩
    | 1, e => simp at e; subst e; exact ⟨_, by go_simp, (b2.below (one_new _ _)).below (one_new _ _)⟩
    | 2, e => simp at e; subst e; exact ⟨_, by go_simp, b3.below (one_new _ _)⟩
theorem ones (l : List (List UInt8)) (h : l = [[1], [2], [3]] ∨ l = [[1]] ∨ l = [[1], [2]]) : ∀ x ∈ l, x.length ≤ 1000000 := fun x hx => by
  rcases h with rfl | rfl | rfl <;> simp at hx
  · rcases hx with rfl | rfl | rfl <;> simp
  · subst hx; simp
  · rcases hx with rfl | rfl <;> simp
theorem dg_range {w : World} {g : Nat} {l : List UInt8} (h : Dg w g l) : w.rangeAt g 0 (l.map byt) := fun j u hj => by
  rw [Nat.zero_add]
  have h' : w.heap[g]? = some (.cells (l.map byt).toArray 30 (0, 0)) := h
  simp only [World.cell?]
  rw [h']
  simpa using hj
theorem bs5_op {o : Oper} {a : Act} {w : World} {K : Act → World → Prop} {Q : Exit → Act → World → Prop} {k : Nat} (hd : o.dst = some k) (ho : o.op = .buildSlice 34 1 #[(0, .const (.int .u8 5))])
    (h : ∀ (U : World) (v : Value), Hid (BV U v [5]) → Below w.heap.size w U → K (a.put (some k) v) U) : Oper.wp Tryd.prog o a w K Q := by
  have h1 := h _ _ (Lib.hid (bv_one w 5)) (one_new w _)
  unfold Oper.wp execOp
  simp only [ho]
  go_simp
  exact h1
theorem range_below {w w' : World} {b o : Nat} {xs : List Value} (h : w.rangeAt b o xs) (hb : Below w.heap.size w w') : w'.rangeAt b o xs := fun j u hj => by
  rw [World.cell?_of_block (w := w) (a := ⟨b, o + j, none⟩) (hb.block b (World.block_lt_of_cell? w _ (h j u hj)))]
  exact h j u hj
abbrev WLof (W : World) : World := ((((W.alloc (.cells #[byt 1] 5)).alloc (.cells #[byt 2] 5)).alloc (.cells #[byt 3] 5)).alloc (.cells #[.slice (some ⟨W.heap.size, 0, none⟩) 1 1, .slice (some ⟨W.heap.size + 1, 0, none⟩) 1 1, .slice (some ⟨W.heap.size + 1 + 1, 0, none⟩) 1 1] 34))
theorem wl_below (W : World) : Below W.heap.size W (WLof W) := ((((Below.refl _ W).alloc (Nat.le_refl _) _).alloc (by simp) _).alloc (by simp; omega) _).alloc (by simp; omega) _
theorem pr3 (W U : World) (hk : KOK U) (hb : Below (WLof W).heap.size (WLof W) U) : Calls Tryd.prog 12 #[.slice (some ⟨W.heap.size + 1 + 1 + 1, 0, none⟩) 3 3, .int .i64 2] U (ProveR [rootD [[1], [2]]] 0 U) := by
  have h := Prove_any _ [[1], [2], [3]] 2 U ((lb3 W 3 (by omega)).below hb) (ones _ (.inl rfl)) hk
  rwa [(proveD_three [1] [2] [3]).1, (proveD_three [1] [2] [3]).2] at h
theorem pr1 (W U : World) (hk : KOK U) (hb : Below (WLof W).heap.size (WLof W) U) : Calls Tryd.prog 12 #[.slice (some ⟨W.heap.size + 1 + 1 + 1, 0, none⟩) 1 3, .int .i64 0] U (ProveR [] 0 U) := by
  have h := Prove_any _ [[1]] 0 U ((lb3 W 1 (by omega)).below hb) (ones _ (.inr (.inl rfl))) hk
  rwa [(proveD_one [1]).1, (proveD_one [1]).2] at h
theorem pr4 (W U : World) (hk : KOK U) (hb : Below (WLof W).heap.size (WLof W) U) : Calls Tryd.prog 12 #[.slice (some ⟨W.heap.size + 1 + 1 + 1, 0, none⟩) 3 3, .int .i64 3] U (ProveR [] 1 U) := by
  have h := Prove_any _ [[1], [2], [3]] 3 U ((lb3 W 3 (by omega)).below hb) (ones _ (.inl rfl)) hk
  rwa [(proveD_out [1] [2] [3]).1, (proveD_out [1] [2] [3]).2] at h
theorem rt2 (W U : World) (hk : KOK U) (hb : Below (WLof W).heap.size (WLof W) U) : Calls Tryd.prog 14 #[.slice (some ⟨W.heap.size + 1 + 1 + 1, 0, none⟩) 2 3] U (DgR (rootD [[1], [2]]) U) := Root_any _ [[1], [2]] U ((lb3 W 2 (by omega)).below hb) (by simp) (ones _ (.inr (.inr rfl))) hk
theorem rt0 (U : World) (hk : KOK U) : Calls Tryd.prog 14 #[.slice none 0 0] U (DgR (tg (bts sNone) []) U) := Root_any _ [] U ⟨0, 0, none, rfl, Nat.le_refl _, Nat.zero_le _, fun _ => rfl, .inl rfl⟩ (by simp) (fun x hx => by simp at hx) hk
theorem co56 (w W : World) (hk : KOK w) (hb : Below w.heap.size w W) : Calls Tryd.prog 19 #[.int .i64 1, .int .i64 0, .slice (some ⟨W.heap.size, 0, none⟩) 1 1, .slice (some ⟨W.heap.size + 1, 0, none⟩) 1 1, .slice none 0 0, .slice none 0 0] ((W.alloc (.cells #[byt 5] 5)).alloc (.cells #[byt 6] 5)) (NoneR ((W.alloc (.cells #[byt 5] 5)).alloc (.cells #[byt 6] 5))) := by
  have b1 := (bv_one W 5).below (one_new _ (.cells #[byt 6] 5))
  have b2 := bv_one (W.alloc (.cells #[byt 5] 5)) 6
  rw [World.size_alloc] at b2
  have hbw : Below w.heap.size w ((W.alloc (.cells #[byt 5] 5)).alloc (.cells #[byt 6] 5)) := hb.trans (((one_new W _).alloc (by simp) _).mono hb.size)
  exact Collide_no 1 0 _ _ _ _ [5] [6] [] [] _ b1 b2 (by simp) (by simp) (ld_nil _) (ld_nil _) (fun d hd => by simp at hd) (fun d hd => by simp at hd) (hk.below hbw) coll56
set_option maxRecDepth 100000 in
set_option maxHeartbeats 4000000 in
theorem sane_any (w : World) (hk : KOK w) : Calls Tryd.prog 10 #[] w (Ret (.bool true) w) := by
  have HK := Lib.hid hk
  clear hk
  have b0 := Lib.hid (one_new w (.cells #[byt 5] 5))
  have K1 := Lib.hid (Climb_any 1 0 _ (.slice none 0 0) [5] [] _ (bv_one w 5) (by simp) (ld_nil _) (fun d hd => by simp at hd) (HK.out.below b0.out))
  rw [climbD_one, show ([] : List (List UInt8)).length = 0 from rfl, chk_one] at K1
  have K2 := Lib.hid fun (U : World) (hb : Below w.heap.size w U) => Climb_any 0 0 (.slice none 0 0) (.slice none 0 0) [] [] U (bv_nil U) (by simp) (ld_nil _) (fun d hd => by simp at hd) (HK.out.below hb)
  rw [climbD_none, show ([] : List (List UInt8)).length = 0 from rfl, chk_none] at K2
  have K3 := Lib.hid fun (U : World) (hb : Below w.heap.size w U) => Climb_any 2 0 (.slice none 0 0) (.slice none 0 0) [] [] U (bv_nil U) (by simp) (ld_nil _) (fun d hd => by simp at hd) (HK.out.below hb)
  rw [climbD_short, show ([] : List (List UInt8)).length = 0 from rfl, chk_short] at K3
  have hs5 : (sha (leafT [5])).length = 32 := sha_len _
  have P3 := Lib.hid pr3
  have P2 := Lib.hid rt2
  have P1 := Lib.hid pr1
  have hR2 := rootD_len [[1], [2]]
  generalize hT5 : sha (leafT [5]) = T5 at *
  generalize rootD [[1], [2]] = R2 at *
  have hl1 : [R2].length = 1 := rfl
  go_enter Tryd.func10, Tryd.ntmps10
  go_wp2_with (first
    | (go_at_call 17; refine K1.out.mono ?_; rintro e w1 ⟨rfl, hb1⟩; have B1 := Lib.hid (b0.out.trans (hb1.mono b0.out.size)); clear K1)
    | (refine dg_store rfl (.tmp 1) (.tmp 21) rfl w1.heap.size _ _ (zeros32 w1) (by simp) hs5 rfl rfl ?_; rintro w2 hd2 hc2; have hbs2 := chg_alloc_below hc2 rfl; have B2 := Lib.hid (B1.out.trans (hbs2.mono B1.out.size)); clear hc2 hbs2)
    | (go_at_call 17; refine (K2.out _ B2.out).mono ?_; rintro e w3 ⟨rfl, hb3⟩; have B3 := Lib.hid (B2.out.trans (hb3.mono B2.out.size)); have hd3 := Lib.hid (hd2.out.below hb3); clear K2)
    | (refine dg_store rfl (.tmp 3) (.tmp 25) rfl w3.heap.size _ _ (zeros32 w3) (by simp) (by simp) rfl rfl ?_; rintro w4 hd4 hc4; have hbs4 := chg_alloc_below hc4 rfl; have B4 := Lib.hid (B3.out.trans (hbs4.mono B3.out.size)); have hd4' := Lib.hid (hd3.out.below hbs4); clear hc4 hbs4)
    | (go_at_call 17; refine (K3.out _ B4.out).mono ?_; rintro e w5 ⟨rfl, hb5⟩; have B5 := Lib.hid (B4.out.trans (hb5.mono B4.out.size)); have hd5 := Lib.hid (hd4'.out.below hb5); clear K3)
    | (refine dg_store rfl (.tmp 5) (.tmp 29) rfl w5.heap.size _ _ (zeros32 w5) (by simp) (by simp) rfl rfl ?_; rintro w6 hd6 hc6; have hbs6 := chg_alloc_below hc6 rfl; have B6 := Lib.hid (B5.out.trans (hbs6.mono B5.out.size)); have hd7 := Lib.hid (hd5.out.below hbs6); have BL := Lib.hid (B6.out.trans ((wl_below w6).mono B6.out.size)); have hd8 := Lib.hid (hd7.out.below (wl_below w6)); clear hc6 hbs6)
    | (go_at_call 12; refine (P3.out w6 _ (HK.out.below BL.out) (Below.refl _ _)).mono ?_; rintro e w7 ⟨v7, rfl, hR7⟩; obtain ⟨p7, c7, rfl⟩ := own_form hR7.out.own; have BL7 := Lib.hid hR7.out.below; have B7 := Lib.hid (BL.out.trans (BL7.out.mono BL.out.size)); have hd9 := Lib.hid (hd8.out.below BL7.out); clear P3)
    | (go_at_call 12; refine (P1.out w6 _ (HK.out.below B7.out) BL7.out).mono ?_; rintro e w8 ⟨v8, rfl, hR8⟩; obtain ⟨p8, c8, rfl⟩ := own_form hR8.out.own; have BL8 := Lib.hid (BL7.out.trans (hR8.out.below.mono BL7.out.size)); have B8 := Lib.hid (B7.out.trans (hR8.out.below.mono B7.out.size)); have hd10 := Lib.hid (hd9.out.below hR8.out.below); have hO8 := Lib.hid (hR7.out.later hR8.out.below); clear P1)
    | (go_at_call 12; refine (pr4 w6 _ (HK.out.below B8.out) BL8.out).mono ?_; rintro e w9 ⟨v9, rfl, hR9⟩; obtain ⟨p9, c9, rfl⟩ := own_form hR9.out.own; have BL9 := Lib.hid (BL8.out.trans (hR9.out.below.mono BL8.out.size)); have B9 := Lib.hid (B8.out.trans (hR9.out.below.mono B8.out.size)); have hd11 := Lib.hid (hd10.out.below hR9.out.below); have hO9 := Lib.hid (hO8.out.later hR9.out.below))
    | (go_at_call 19; refine (co56 w w9 HK.out B9.out).mono ?_; rintro e w10 ⟨rfl, hb10⟩; have hbb := (((one_new w9 (.cells #[byt 5] 5)).alloc (by simp) (.cells #[byt 6] 5))).trans (hb10.mono (by simp; omega)); have BL10 := Lib.hid (BL9.out.trans (hbb.mono BL9.out.size)); have B10 := Lib.hid (B9.out.trans (hbb.mono B9.out.size)); have hd12 := Lib.hid (hd11.out.below hbb); have hO10 := Lib.hid (hO9.out.later hbb)))
  have hr1 := dg_range hd12.out
  rcases hO10.out.own with ⟨_, hx, _⟩ | ⟨g7, cc, hv7, hOB⟩
  · simp at hx
  cases hv7
  have hr2 : w10.rangeAt g7 0 (R2.map byt) := fun j u hj => by
    rw [Nat.zero_add]
    exact hOB.cells j u (by rw [fl_one]; exact hj)
  have PT : Hid (∀ U v, BV U v [5] → KOK U → Calls Tryd.prog 22 #[.string sLeaf, v] U (DgR (tg (bts sLeaf) [5]) U)) := Lib.hid fun U v hv hk => tagged_any sLeaf v [5] U (by decide) hv (by simp) hk
  rw [show tg (bts sLeaf) [5] = T5 from hT5] at PT
  have PN : Hid (∀ U, KOK U → Calls Tryd.prog 22 #[.string sNone, .slice none 0 0] U (DgR (tg (bts sNone) []) U)) := Lib.hid fun (U : World) (hk : KOK U) => tagged_any sNone (.slice none 0 0) [] U (by decide) (bv_nil U) (by simp) hk
  have P0 := Lib.hid rt0
  have hTN : (tg (bts sNone) []).length = 32 := sha_len _
  generalize tg (bts sNone) [] = TN at *
  have HKU : Hid (∀ U, Kp (fun _ => False) w10 U → KOK U) := Lib.hid fun U hk => HK.out.below (B10.out.trans (hk.bel.mono B10.out.size))
  have HLU : Hid (∀ U, Kp (fun _ => False) w10 U → Below (WLof w6).heap.size (WLof w6) U) := Lib.hid fun U hk => BL10.out.trans (hk.bel.mono BL10.out.size)
  have hu30 := Tryd.underlying30
  have hsx : (Tryd.prog.info? 30).map (·.size) = some (T5.map byt).length := by rw [size26, List.length_map, hs5]
  have hsy : (Tryd.prog.info? 30).map (·.size) = some (R2.map byt).length := by rw [size26, List.length_map, hR2]
  have he1 : ∀ w, (Op.equalIn 10000 30 (dgv T5) (dgv T5)).run Tryd.prog w = .ok true w := fun w => by rw [dg_equal _ _ hs5 hs5, beq_self_eq_true]
  have he2 : ∀ w, (Op.equalIn 10000 30 (dgv R2) (dgv R2)).run Tryd.prog w = .ok true w := fun w => by rw [dg_equal _ _ hR2 hR2, beq_self_eq_true]
  have he3 : ∀ w, (Op.equalIn 10000 30 (dgv TN) (dgv TN)).run Tryd.prog w = .ok true w := fun w => by rw [dg_equal _ _ hTN hTN, beq_self_eq_true]
  clear hT5 hd12 hO10 hO9 hO8 hd11 hd10 hd9 hd8 hd7 hd5 hd4' hd3 hd2 hR7 hR8 hR9 hd4 hd6 hb1 hb3 hb5 b0 hbb hb10
  obtain ⟨g1, hg1⟩ : ∃ g, w1.heap.size = g := ⟨_, rfl⟩
  obtain ⟨g3, hg3⟩ : ∃ g, w3.heap.size = g := ⟨_, rfl⟩
  obtain ⟨g5, hg5⟩ : ∃ g, w5.heap.size = g := ⟨_, rfl⟩
  rw [hg1] at hr1 ⊢
  rw [hg3, hg5]
  clear hg1 hg3 hg5 hOB B1 B2 B3 B4 B5 B6 BL BL7 BL8 BL9 B7 B8 B9
  have hSB : Hid (∀ U, Kp (fun _ => False) w10 U → U.rangeAt g1 0 (T5.map byt) ∧ U.rangeAt g7 0 (R2.map byt)) := Lib.hid fun U hk => ⟨range_below hr1 hk.bel, range_below hr2 hk.bel⟩
  have B0 : Hid (Kp (fun _ => False) w10 w10.drew) := Lib.hid (Kp.refl w10).drew
  have S0 := Lib.hid (hSB.out _ B0.out)
  clear hr1 hr2
  refine wp_only ?_
  refine wp_region_held_drew (S := fun U => U.rangeAt g1 0 (T5.map byt) ∧ U.rangeAt g7 0 (R2.map byt)) (by kernel_rfl) S0.out (fun hHeld => ?_)
  refine take_at (i := 0) (k := 84) (v := .bool true) rfl rfl (by kernel_rfl) (by kernel_rfl) (by kernel_rfl) (fun _ _ _ h => h) (Or.inl ⟨by rfl, fun w _ => by go_simp⟩) hHeld ?_
  try simp only [Act.put, List.setIfInBounds_toArray, List.set_cons_zero, List.set_cons_succ]
  refine take_at (i := 1) (k := 85) (v := .bool true) rfl rfl (by kernel_rfl) (by kernel_rfl) (by kernel_rfl) (fun _ _ _ h => h) (Or.inl ⟨by rfl, fun w _ => by go_simp⟩) hHeld ?_
  try simp only [Act.put, List.setIfInBounds_toArray, List.set_cons_zero, List.set_cons_succ]
  refine take_at (i := 2) (k := 86) (v := dgv T5) rfl rfl (by kernel_rfl) (by kernel_rfl) (by kernel_rfl) (fun _ _ _ h => h) (yieldsIf_load_mid (by rfl) 30 (.tmp 1) rfl g1 0 rfl (T5.map byt) _ (fun w' h => h.1) hu30 rfl hsx) hHeld ?_
  try simp only [Act.put, List.setIfInBounds_toArray, List.set_cons_zero, List.set_cons_succ]
  clear hHeld
  refine wpAnyH_ready (rs := [3]) (by kernel_rfl) (by simp) ?_
  refine AllReadyH.cons rfl (fun K hK => ?_) AllReadyH.nil
  rw [if_pos (by rfl)]
  refine bs5_op rfl rfl ?_
  rintro U1 v5 hv1 hba1
  have B1 := Lib.hid (B0.out.next hba1)
  have S1 := Lib.hid (hSB.out _ B1.out)
  refine hK.out _ _ S1.out (fun hHeld => ?_)
  try simp only [Act.put, List.setIfInBounds_toArray, List.set_cons_zero, List.set_cons_succ]
  clear hK K
  clear hHeld
  refine wpAnyH_ready (rs := [4]) (by kernel_rfl) (by simp) ?_
  refine AllReadyH.cons rfl (fun K hK => ?_) AllReadyH.nil
  rw [if_pos (by rfl)]
  go_simp
  go_at_call 22
  refine (PT.out _ _ hv1.out (HKU.out _ B1.out)).mono ?_
  rintro e U2 ⟨rfl, hba2⟩
  have B2 := Lib.hid (B1.out.next hba2)
  have S2 := Lib.hid (hSB.out _ B2.out)
  refine hK.out _ _ S2.out (fun hHeld => ?_)
  try simp only [Act.put, List.setIfInBounds_toArray, List.set_cons_zero, List.set_cons_succ]
  clear hK K
  refine take_at (i := 5) (k := 89) (v := .bool true) rfl rfl (by kernel_rfl) (by kernel_rfl) (by kernel_rfl) (fun _ _ _ h => h) (Or.inl ⟨by rfl, fun w _ => by go_simp⟩) hHeld ?_
  try simp only [Act.put, List.setIfInBounds_toArray, List.set_cons_zero, List.set_cons_succ]
  refine take_at (i := 6) (k := 90) (v := .bool true) rfl rfl (by kernel_rfl) (by kernel_rfl) (by kernel_rfl) (fun _ _ _ h => h) (Or.inl ⟨by rfl, fun w _ => by go_simp⟩) hHeld ?_
  try simp only [Act.put, List.setIfInBounds_toArray, List.set_cons_zero, List.set_cons_succ]
  refine take_at (i := 7) (k := 91) (v := .bool true) rfl rfl (by kernel_rfl) (by kernel_rfl) (by kernel_rfl) (fun _ _ _ h => h) (Or.inl ⟨by rfl, fun w _ => by go_simp⟩) hHeld ?_
  try simp only [Act.put, List.setIfInBounds_toArray, List.set_cons_zero, List.set_cons_succ]
  refine take_at (i := 8) (k := 92) (v := .slice p8 0 c8) rfl rfl (by kernel_rfl) (by kernel_rfl) (by kernel_rfl) (fun _ _ _ h => h) (Or.inl ⟨by rfl, fun w _ => by go_simp⟩) hHeld ?_
  try simp only [Act.put, List.setIfInBounds_toArray, List.set_cons_zero, List.set_cons_succ]
  refine take_at (i := 9) (k := 93) (v := .int .i64 0) rfl rfl (by kernel_rfl) (by kernel_rfl) (by kernel_rfl) (fun _ _ _ h => h) (Or.inl ⟨by rfl, fun w _ => by go_simp⟩) hHeld ?_
  try simp only [Act.put, List.setIfInBounds_toArray, List.set_cons_zero, List.set_cons_succ]
  refine take_at (i := 10) (k := 94) (v := .bool true) rfl rfl (by kernel_rfl) (by kernel_rfl) (by kernel_rfl) (fun _ _ _ h => h) (Or.inl ⟨by rfl, fun w _ => by go_simp⟩) hHeld ?_
  try simp only [Act.put, List.setIfInBounds_toArray, List.set_cons_zero, List.set_cons_succ]
  refine take_at (i := 11) (k := 95) (v := .bool true) rfl rfl (by kernel_rfl) (by kernel_rfl) (by kernel_rfl) (fun _ _ _ h => h) (Or.inl ⟨by rfl, fun w _ => by go_simp⟩) hHeld ?_
  try simp only [Act.put, List.setIfInBounds_toArray, List.set_cons_zero, List.set_cons_succ]
  refine take_at (i := 12) (k := 96) (v := .bool true) rfl rfl (by kernel_rfl) (by kernel_rfl) (by kernel_rfl) (fun _ _ _ h => h) (Or.inl ⟨by rfl, fun w _ => by go_simp⟩) hHeld ?_
  try simp only [Act.put, List.setIfInBounds_toArray, List.set_cons_zero, List.set_cons_succ]
  refine take_at (i := 13) (k := 97) (v := .slice (some ⟨g7, 0, none⟩) 1 c7) rfl rfl (by kernel_rfl) (by kernel_rfl) (by kernel_rfl) (fun _ _ _ h => h) (Or.inl ⟨by rfl, fun w _ => by go_simp⟩) hHeld ?_
  try simp only [Act.put, List.setIfInBounds_toArray, List.set_cons_zero, List.set_cons_succ]
  refine take_at (i := 14) (k := 98) (v := .int .i64 1) rfl rfl (by kernel_rfl) (by kernel_rfl) (by kernel_rfl) (fun _ _ _ h => h) (Or.inl ⟨by rfl, fun w _ => by go_simp⟩) hHeld ?_
  try simp only [Act.put, List.setIfInBounds_toArray, List.set_cons_zero, List.set_cons_succ]
  refine take_at (i := 15) (k := 99) (v := .bool true) rfl rfl (by kernel_rfl) (by kernel_rfl) (by kernel_rfl) (fun _ _ _ h => h) (Or.inl ⟨by rfl, fun w _ => by go_simp⟩) hHeld ?_
  try simp only [Act.put, List.setIfInBounds_toArray, List.set_cons_zero, List.set_cons_succ]
  refine take_at (i := 16) (k := 100) (v := .bool true) rfl rfl (by kernel_rfl) (by kernel_rfl) (by kernel_rfl) (fun _ _ _ h => h) (Or.inl ⟨by rfl, fun w _ => by go_simp⟩) hHeld ?_
  try simp only [Act.put, List.setIfInBounds_toArray, List.set_cons_zero, List.set_cons_succ]
  refine take_at (i := 17) (k := 101) (v := .bool true) rfl rfl (by kernel_rfl) (by kernel_rfl) (by kernel_rfl) (fun _ _ _ h => h) (Or.inl ⟨by rfl, fun w _ => by go_simp⟩) hHeld ?_
  try simp only [Act.put, List.setIfInBounds_toArray, List.set_cons_zero, List.set_cons_succ]
  refine take_at (i := 18) (k := 102) (v := .slice (some ⟨g7, 0, none⟩) 1 c7) rfl rfl (by kernel_rfl) (by kernel_rfl) (by kernel_rfl) (fun _ _ _ h => h) (Or.inl ⟨by rfl, fun w _ => by go_simp⟩) hHeld ?_
  try simp only [Act.put, List.setIfInBounds_toArray, List.set_cons_zero, List.set_cons_succ]
  refine take_at (i := 19) (k := 103) (v := .pointer (some ⟨g7, 0, none⟩)) rfl rfl (by kernel_rfl) (by kernel_rfl) (by kernel_rfl) (fun _ _ _ h => h) (Or.inl ⟨by rfl, fun w _ => by go_simp⟩) hHeld ?_
  try simp only [Act.put, List.setIfInBounds_toArray, List.set_cons_zero, List.set_cons_succ]
  refine take_at (i := 20) (k := 104) (v := dgv R2) rfl rfl (by kernel_rfl) (by kernel_rfl) (by kernel_rfl) (fun _ _ _ h => h) (yieldsIf_load_mid (by rfl) 30 (.tmp 103) rfl g7 0 rfl (R2.map byt) _ (fun w' h => h.2) hu30 rfl hsy) hHeld ?_
  try simp only [Act.put, List.setIfInBounds_toArray, List.set_cons_zero, List.set_cons_succ]
  refine take_at (i := 21) (k := 105) (v := .slice (some ⟨w6.heap.size + 1 + 1 + 1, 0, none⟩) 3 3) rfl rfl (by kernel_rfl) (by kernel_rfl) (by kernel_rfl) (fun _ _ _ h => h) (Or.inl ⟨by rfl, fun w _ => by go_simp⟩) hHeld ?_
  try simp only [Act.put, List.setIfInBounds_toArray, List.set_cons_zero, List.set_cons_succ]
  refine take_at (i := 22) (k := 106) (v := .slice (some ⟨w6.heap.size + 1 + 1 + 1, 0, none⟩) 2 3) rfl rfl (by kernel_rfl) (by kernel_rfl) (by kernel_rfl) (fun _ _ _ h => h) (Or.inl ⟨by rfl, fun w _ => by go_simp⟩) hHeld ?_
  try simp only [Act.put, List.setIfInBounds_toArray, List.set_cons_zero, List.set_cons_succ]
  clear hHeld
  refine wpAnyH_ready (rs := [23]) (by kernel_rfl) (by simp) ?_
  refine AllReadyH.cons rfl (fun K hK => ?_) AllReadyH.nil
  rw [if_pos (by rfl)]
  go_simp
  go_at_call 14
  refine (P2.out w6 _ (HKU.out _ B2.out) (HLU.out _ B2.out)).mono ?_
  rintro e U3 ⟨rfl, hba3⟩
  have B3 := Lib.hid (B2.out.next hba3)
  have S3 := Lib.hid (hSB.out _ B3.out)
  refine hK.out _ _ S3.out (fun hHeld => ?_)
  try simp only [Act.put, List.setIfInBounds_toArray, List.set_cons_zero, List.set_cons_succ]
  clear hK K
  refine take_at (i := 24) (k := 108) (v := .bool true) rfl rfl (by kernel_rfl) (by kernel_rfl) (by kernel_rfl) (fun _ _ _ h => h) (Or.inl ⟨by rfl, fun w _ => by go_simp⟩) hHeld ?_
  try simp only [Act.put, List.setIfInBounds_toArray, List.set_cons_zero, List.set_cons_succ]
  refine take_at (i := 25) (k := 109) (v := .bool true) rfl rfl (by kernel_rfl) (by kernel_rfl) (by kernel_rfl) (fun _ _ _ h => h) (Or.inl ⟨by rfl, fun w _ => by go_simp⟩) hHeld ?_
  try simp only [Act.put, List.setIfInBounds_toArray, List.set_cons_zero, List.set_cons_succ]
  refine take_at (i := 26) (k := 110) (v := .bool true) rfl rfl (by kernel_rfl) (by kernel_rfl) (by kernel_rfl) (fun _ _ _ h => h) (Or.inl ⟨by rfl, fun w _ => by go_simp⟩) hHeld ?_
  try simp only [Act.put, List.setIfInBounds_toArray, List.set_cons_zero, List.set_cons_succ]
  clear hHeld
  refine wpAnyH_ready (rs := [27]) (by kernel_rfl) (by simp) ?_
  refine AllReadyH.cons rfl (fun K hK => ?_) AllReadyH.nil
  rw [if_pos (by rfl)]
  go_simp
  go_at_call 14
  refine (P0.out _ (HKU.out _ B3.out)).mono ?_
  rintro e U4 ⟨rfl, hba4⟩
  have B4 := Lib.hid (B3.out.next hba4)
  have S4 := Lib.hid (hSB.out _ B4.out)
  refine hK.out _ _ S4.out (fun hHeld => ?_)
  try simp only [Act.put, List.setIfInBounds_toArray, List.set_cons_zero, List.set_cons_succ]
  clear hK K
  clear hHeld
  refine wpAnyH_ready (rs := [28]) (by kernel_rfl) (by simp) ?_
  refine AllReadyH.cons rfl (fun K hK => ?_) AllReadyH.nil
  rw [if_pos (by rfl)]
  go_simp
  go_at_call 22
  refine (PN.out _ (HKU.out _ B4.out)).mono ?_
  rintro e U5 ⟨rfl, hba5⟩
  have B5 := Lib.hid (B4.out.next hba5)
  have S5 := Lib.hid (hSB.out _ B5.out)
  refine hK.out _ _ S5.out (fun hHeld => ?_)
  try simp only [Act.put, List.setIfInBounds_toArray, List.set_cons_zero, List.set_cons_succ]
  clear hK K
  refine take_at (i := 29) (k := 113) (v := .bool true) rfl rfl (by kernel_rfl) (by kernel_rfl) (by kernel_rfl) (fun _ _ _ h => h) (Or.inl ⟨by rfl, fun w _ => by go_simp⟩) hHeld ?_
  try simp only [Act.put, List.setIfInBounds_toArray, List.set_cons_zero, List.set_cons_succ]
  refine take_at (i := 30) (k := 114) (v := .bool true) rfl rfl (by kernel_rfl) (by kernel_rfl) (by kernel_rfl) (fun _ _ _ h => h) (Or.inl ⟨by rfl, fun w _ => by go_simp⟩) hHeld ?_
  try simp only [Act.put, List.setIfInBounds_toArray, List.set_cons_zero, List.set_cons_succ]
  refine take_at (i := 31) (k := 0) (v := .bool true) rfl rfl (by kernel_rfl) (by kernel_rfl) (by kernel_rfl) (fun _ _ _ h => h) (Or.inl ⟨by rfl, fun w _ => by go_simp⟩) hHeld ?_
  try simp only [Act.put, List.setIfInBounds_toArray, List.set_cons_zero, List.set_cons_succ]
  clear hHeld
  refine wpAnyH_done (by kernel_rfl) ?_ _
  go_wp2_with fail
  go_ret
  exact ⟨rfl, B10.out.trans (B5.out.bel.mono B10.out.size)⟩
end Go.Proofs.YteeabenmfmeooaaDoor
