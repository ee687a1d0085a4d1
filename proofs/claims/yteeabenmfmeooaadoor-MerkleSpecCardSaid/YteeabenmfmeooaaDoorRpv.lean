/-
  Merkle, the reference: Prove; the law MerkleSpec.
-/
import Derived.Test.YteeabenmfmeooaaDoorRnx
import Derived.Test.YteeabenmfmeooaaDoorLawProve
namespace Go.Proofs.YteeabenmfmeooaaDoor
open Go Go.RowKit
set_option maxRecDepth 100000 in
set_option maxHeartbeats 2000000 in
theorem rroot_any (v : Value) (l : List (List UInt8)) (w : World) (hv' : LB w v l) (hn : l.length ≤ 100000) (h1 : ∀ x ∈ l, x.length ≤ 900000) : Calls Tryd.prog 15 #[v] w (DgR (rootD l) w) := by
  have hd0 := Lib.hid (zeros32 w)
  have hb0 := Lib.hid (one_new w (.cells ((List.replicate 32 (0 : UInt8)).map byt).toArray 30))
  have hRl := rootD_len l
  by_cases h0 : l.length = 0
  · obtain ⟨p, c, rfl⟩ : ∃ p c, v = .slice p l.length c := by
      obtain ⟨_, c, p, e, _⟩ := hv'
      exact ⟨p, c, e⟩
    have hD : rootD l = tg (bts sNone) [] := by unfold rootD; rw [if_pos h0]
    rw [hD] at hRl ⊢
    have HT := Lib.hid fun (U : World) => rtagged_any sNone (.slice none 0 0) [] U (by decide) (bv_nil U) (by simp)
    clear hD hv' h1
    rw [h0]
    go_enter Tryd.func15, Tryd.ntmps15
    go_wp2_with (first
      | (go_at_call 28; refine (HT.out _).mono ?_; rintro e w1 ⟨rfl, hb1⟩; have hB := Lib.hid (hb0.out.trans (hb1.mono hb0.out.size)); have hd1 := Lib.hid (hd0.out.below hb1))
      | (refine dg_store rfl (.tmp 2) (.tmp 7) rfl w.heap.size _ _ hd1.out (by simp) hRl rfl rfl ?_; rintro w3 hd3 hc3))
    exact bodyPost_ret (results_cell_row rfl _ _ w.heap.size 30 _ (0, 0) _ rfl hd3.out Tryd.underlying30 rfl (dg_size hRl)) rfl ⟨rfl, Chg.below hB.out hB.out.size (Nat.le_refl _) hc3⟩
  have hD : rootD l = rootL l := by unfold rootD; rw [if_neg h0]
  rw [hD] at hRl ⊢
  have HFR := Lib.hid fun (U : World) (hb : Below w.heap.size w U) => rfirst_any v l U (hv'.below hb) hn h1
  have h320 := leaf32 l
  have hl0 : (l.map leafD).length = l.length := List.length_map ..
  have HL0 : Hid (D32 (l.map leafD) ∧ 0 < (l.map leafD).length ∧ (l.map leafD).length ≤ 100000 ∧ topL (l.map leafD) = rootL l) := Lib.hid ⟨h320, by omega, by omega, rfl⟩
  obtain ⟨p, c, hvf⟩ : ∃ p c, v = .slice p l.length c := by
    obtain ⟨_, c, p, e, _⟩ := hv'
    exact ⟨p, c, e⟩
  have h0I : ¬ (l.length : Int) = 0 := by omega
  clear hv' h1 hD h320 hl0
  generalize rootL l = T at *
  subst hvf
  go_enter Tryd.func15, Tryd.ntmps15
  go_wp2_with (go_at_call 25; refine (HFR.out _ hb0.out).mono ?_; rintro e w1 ⟨v1, rfl, hR1⟩; have hd1 := Lib.hid (hd0.out.below hR1.out.below))
  have hz0 : (w.alloc (.cells ((List.replicate 32 (0 : UInt8)).map byt).toArray 30)).heap.size = w.heap.size + 1 := by simp
  clear hd0 HFR
  generalize w.alloc (.cells ((List.replicate 32 (0 : UInt8)).map byt).toArray 30) = W0 at *
  go_loopw [3] (fun u wr => ∃ r : List (List UInt8), Hid (RowI W0 wr u r) ∧ Hid (D32 r ∧ 0 < r.length ∧ r.length ≤ 100000 ∧ topL r = T) ∧ Hid (Dg wr w.heap.size (List.replicate 32 0))) (fun u _ => lenOf u)
  case atStart => exact ⟨_, hR1, HL0, hd1⟩
  case round =>
    clear hR1 HL0 hd1
    obtain ⟨r, HR, HL, HD⟩ := hrel
    obtain ⟨p1, c1, rfl⟩ := own_form HR.out.own
    have hld := own_ld HR.out.own
    obtain ⟨h32, hp, hle, ht⟩ := HL.out
    by_cases h1 : 1 < r.length
    · have h1I : (1 : Int) < (r.length : Int) := by omega
      have HN := Lib.hid (rnext_any _ r wr hld h32 hle)
      have HL2 := Lib.hid (⟨nextL32 h32, by rw [nextL_len]; omega, by rw [nextL_len]; omega, by rw [← topL_next h1]; exact ht⟩ : D32 (nextL r) ∧ 0 < (nextL r).length ∧ (nextL r).length ≤ 100000 ∧ topL (nextL r) = T)
      have H1 := Lib.hid h1
      clear hld h32 hp hle ht
      go_wp2_with (go_at_call 26; refine HN.out.mono ?_; rintro e w2 ⟨v2, rfl, hR2⟩; have HR2 := Lib.hid (hR2.out.base HR.out.below); have hd2 := Lib.hid (HD.out.below hR2.out.below))
      go_roundw
      case rel => exact ⟨_, HR2, HL2, hd2⟩
      case measure =>
        obtain ⟨p2, c2, rfl⟩ := own_form HR2.out.own
        have := nextL_len r
        simp only [lenOf]
        omega
    · have h1I : ¬ (1 : Int) < (r.length : Int) := by omega
      obtain ⟨d, hd⟩ : ∃ d, r = [d] := List.length_eq_one_iff.1 (by omega)
      subst hd
      have hdT : d = T := by rw [← ht, topL_one (by simp)]; rfl
      subst hdT
      obtain ⟨b', c', p', hv', _, _, _, hc4⟩ := hld
      rcases hc4 with hc4 | ⟨o', rfl, hblt, hra⟩
      · cases hc4
      cases hv'
      rw [fl_one] at hra
      have HRA := Lib.hid hra
      have hBW := Lib.hid (hb0.out.trans (HR.out.below.mono hb0.out.size))
      clear ht hra h32 hp hle
      simp only [List.length_cons, List.length_nil, Nat.zero_add] at h1I ⊢
      go_wp2_with (first
        | (refine el_load rfl (.tmp 16) rfl b' o' d HRA.out hRl rfl ?_)
        | (refine dg_store rfl (.tmp 2) (.tmp 17) rfl w.heap.size _ _ HD.out (by simp) hRl rfl rfl ?_; rintro w3 hd3 hc3))
      exact bodyPost_ret (results_cell_row rfl _ _ w.heap.size 30 _ (0, 0) _ rfl hd3.out Tryd.underlying30 rfl (dg_size hRl)) rfl ⟨rfl, Chg.below hBW.out hBW.out.size (Nat.le_refl _) hc3⟩
/-- equal lists of digests -/
theorem rsame_eq (u v : Value) (p : List (List UInt8)) (w : World) (hu : LD w u p) (hv' : LD w v p) (h32 : D32 p) (hn : p.length ≤ 1000000) : Calls Tryd.prog 16 #[u, v] w (Ret (.bool true) w) := by
  have HU := Lib.hid hu
  have HV := Lib.hid hv'
  have H32 := Lib.hid h32
  obtain ⟨b1, c1, p1, rfl, h11, h12, _, h14⟩ := hu
  obtain ⟨b2, c2, p2, rfl, h21, h22, _, h24⟩ := hv'
  have H14 := Lib.hid h14
  have H24 := Lib.hid h24
  unfold maxLen at h12 h22
  obtain ⟨n, hnn⟩ : ∃ n, n = p.length := ⟨_, rfl⟩
  have HN := Lib.hid hnn
  rw [← hnn] at h11 h21 hn HU HV ⊢
  clear h32 h14 h24 hnn
  go_enter Tryd.func16, Tryd.ntmps16
  go_wp2_with fail
  go_loopw [5] (fun i wr => ∃ k : Nat, i = .int .i64 (k : Int) ∧ k ≤ n ∧ Hid (Below w.heap.size w wr)) (fun i _ => n - (intOf i).toNat)
  case atStart => exact ⟨0, rfl, Nat.zero_le _, Lib.hid (Below.refl _ _)⟩
  case round =>
    obtain ⟨k, rfl, hk, HB⟩ := hrel
    by_cases hlt : k < n
    · have hltI : (k : Int) < (n : Int) := by omega
      obtain ⟨d, hd⟩ : ∃ d, p[k]? = some d := ⟨_, List.getElem?_eq_getElem (by have := HN.out; omega)⟩
      have hd32 : d.length = 32 := H32.out d (List.mem_of_getElem? hd)
      rcases H14.out with hnil | ⟨o1, rfl, hlt1, _⟩
      · have := HN.out; rw [hnil] at this; simp at this; omega
      rcases H24.out with hnil | ⟨o2, rfl, hlt2, _⟩
      · have := HN.out; rw [hnil] at this; simp at this; omega
      have hr1 := HU.out.at H32.out k d hd
      have hr2 := HV.out.at H32.out k d hd
      have S0 := Lib.hid (⟨range_below hr1 HB.out, range_below hr2 HB.out⟩ : wr.rangeAt b1 (o1 + k * 32) (d.map byt) ∧ wr.rangeAt b2 (o2 + k * 32) (d.map byt))
      have S1 : Hid (wr.drew.rangeAt b1 (o1 + k * 32) (d.map byt) ∧ wr.drew.rangeAt b2 (o2 + k * 32) (d.map byt)) := Lib.hid ⟨S0.out.1, S0.out.2⟩
      have hEQ : ∀ w, (Op.equalIn 10000 30 (dgv d) (dgv d)).run Tryd.prog w = .ok true w := fun w => by rw [dg_equal _ _ hd32 hd32, beq_self_eq_true]
      have HB2 := Lib.hid (below_drew HB.out)
      clear hr1 hr2 hd S0
      go_upto_region 6 with fail
      refine wp_norm ?_
      refine wp_region_held_drew (S := fun U => U.rangeAt b1 (o1 + k * 32) (d.map byt) ∧ U.rangeAt b2 (o2 + k * 32) (d.map byt)) (by kernel_rfl) S1.out (fun hHeld => ?_)
      refine take_at (i := 0) (k := 17) (v := .slice (some ⟨b1, o1, none⟩) n c1) rfl rfl (by kernel_rfl) (by kernel_rfl) (by kernel_rfl) (fun _ _ _ h => h) (Or.inl ⟨by rfl, fun w _ => by go_simp⟩) hHeld ?_
      try simp only [Act.put, List.setIfInBounds_toArray, List.set_cons_zero, List.set_cons_succ]
      refine take_at (i := 1) (k := 18) (v := .int .i64 (k : Int)) rfl rfl (by kernel_rfl) (by kernel_rfl) (by kernel_rfl) (fun _ _ _ h => h) (Or.inl ⟨by rfl, fun w _ => by go_simp⟩) hHeld ?_
      try simp only [Act.put, List.setIfInBounds_toArray, List.set_cons_zero, List.set_cons_succ]
      refine take_at (i := 2) (k := 19) (v := .pointer (some ⟨b1, o1 + k * 32, none⟩)) rfl rfl (by kernel_rfl) (by kernel_rfl) (by kernel_rfl) (fun _ _ _ h => h) (Or.inl ⟨by rfl, fun w _ => by go_simp <;> (intro h; omega)⟩) hHeld ?_
      try simp only [Act.put, List.setIfInBounds_toArray, List.set_cons_zero, List.set_cons_succ]
      refine take_at (i := 3) (k := 20) (v := dgv d) rfl rfl (by kernel_rfl) (by kernel_rfl) (by kernel_rfl) (fun _ _ _ h => h) (yieldsIf_load_mid (by rfl) 30 (.tmp 19) rfl b1 (o1 + k * 32) rfl (d.map byt) _ (fun w' h => h.1) Tryd.underlying30 rfl (el_size hd32)) hHeld ?_
      try simp only [Act.put, List.setIfInBounds_toArray, List.set_cons_zero, List.set_cons_succ]
      refine take_at (i := 4) (k := 21) (v := .slice (some ⟨b2, o2, none⟩) n c2) rfl rfl (by kernel_rfl) (by kernel_rfl) (by kernel_rfl) (fun _ _ _ h => h) (Or.inl ⟨by rfl, fun w _ => by go_simp⟩) hHeld ?_
      try simp only [Act.put, List.setIfInBounds_toArray, List.set_cons_zero, List.set_cons_succ]
      refine take_at (i := 5) (k := 22) (v := .int .i64 (k : Int)) rfl rfl (by kernel_rfl) (by kernel_rfl) (by kernel_rfl) (fun _ _ _ h => h) (Or.inl ⟨by rfl, fun w _ => by go_simp⟩) hHeld ?_
      try simp only [Act.put, List.setIfInBounds_toArray, List.set_cons_zero, List.set_cons_succ]
      refine take_at (i := 6) (k := 23) (v := .pointer (some ⟨b2, o2 + k * 32, none⟩)) rfl rfl (by kernel_rfl) (by kernel_rfl) (by kernel_rfl) (fun _ _ _ h => h) (Or.inl ⟨by rfl, fun w _ => by go_simp <;> (intro h; omega)⟩) hHeld ?_
      try simp only [Act.put, List.setIfInBounds_toArray, List.set_cons_zero, List.set_cons_succ]
      refine take_at (i := 7) (k := 24) (v := dgv d) rfl rfl (by kernel_rfl) (by kernel_rfl) (by kernel_rfl) (fun _ _ _ h => h) (yieldsIf_load_mid (by rfl) 30 (.tmp 23) rfl b2 (o2 + k * 32) rfl (d.map byt) _ (fun w' h => h.2) Tryd.underlying30 rfl (el_size hd32)) hHeld ?_
      try simp only [Act.put, List.setIfInBounds_toArray, List.set_cons_zero, List.set_cons_succ]
      refine take_at (i := 8) (k := 25) (v := .bool false) rfl rfl (by kernel_rfl) (by kernel_rfl) (by kernel_rfl) (fun _ _ _ h => h) (Or.inl ⟨by rfl, fun w _ => by go_simp⟩) hHeld ?_
      try simp only [Act.put, List.setIfInBounds_toArray, List.set_cons_zero, List.set_cons_succ]
      clear hHeld
      refine wpAnyH_done (by kernel_rfl) ?_ _
      go_wp2_with fail
      go_roundw
      case rel => exact ⟨k + 1, by go_num, by omega, HB2⟩
      case measure => simp [intOf]; omega
    · have hltI : ¬ (k : Int) < (n : Int) := by omega
      go_wp2_with fail
      go_ret
      exact ⟨rfl, HB.out⟩
end Go.Proofs.YteeabenmfmeooaaDoor
namespace Go.Proofs.YteeabenmfmeooaaDoor
open Go Go.RowKit
/-- an own row that is not in the other's block -/
def Apart (u x : Value) : Prop := ∀ j, u.ownBlock = some j → x.ownBlock ≠ some j
theorem apart_new {w W U : World} {u x : Value} {P R : List (List UInt8)} (h : RowI w W u P) (hR : RowI W U x R) : Apart u x := fun j hj hx => by
  have := h.own.lt hj
  have := hR.new j hx
  omega
theorem row_other {w W U : World} {u u' x : Value} {P R : List (List UInt8)} (h : RowI w W x R) (ha : Apart u x) (hg : W.grownBy U u.ownBlock) (hP : RowI w U u' P) : RowI w U x R :=
  ⟨h.own.keep hg.size fun k hk => hg.block k (h.own.lt hk) (fun e => ha k e.symm hk), h.new, hP.below⟩
theorem apart_next {W : World} {u u' x : Value} {n : Nat} {xs : List Value} (ha : Apart u x) (hx : OwnN 32 W x n xs) (hn : u'.ownBlock = u.ownBlock ∨ ∃ k, u'.ownBlock = some k ∧ W.heap.size ≤ k) : Apart u' x := fun j hj hx' => by
  rcases hn with h | ⟨k, h, h2⟩
  · exact ha j (h ▸ hj) hx'
  · rw [h] at hj
    cases hj
    have := hx.lt hx'
    omega
set_option maxRecDepth 100000 in
set_option maxHeartbeats 4000000 in
theorem rprove_any (v : Value) (l : List (List UInt8)) (i : Int) (w : World) (hv' : LB w v l) (hn : l.length ≤ 60000) (h1 : ∀ x ∈ l, x.length ≤ 900000) : Calls Tryd.prog 13 #[v, .int .i64 i] w (ProveR (proveD l i) (proveE l i) w) := by
  obtain ⟨p, c, rfl⟩ : ∃ p c, v = .slice p l.length c := by
    obtain ⟨_, c, p, e, _⟩ := hv'
    exact ⟨p, c, e⟩
  have hlI : ¬ (65536 : Int) < (l.length : Int) := by omega
  by_cases hi : i < 0 ∨ (l.length : Int) ≤ i
  · have hp := proveD_no hi
    rw [hp.1, hp.2]
    clear hp hv' h1
    rcases hi with hi | hi
    all_goals
      go_enter Tryd.func13, Tryd.ntmps13
      go_wp2_with fail
      go_ret2
      exact ⟨_, rfl, Lib.hid ⟨OwnN.nil 32 w, (fun k e => by cases e), Below.refl _ _⟩⟩
  obtain ⟨a0, rfl⟩ : ∃ a : Nat, i = (a : Int) := ⟨i.toNat, by omega⟩
  have ha0 : a0 < l.length := by omega
  have hp := proveD_yes ha0 (by omega : l.length ≤ 65536)
  rw [hp.1, hp.2, pathL_eq]
  have HFR := Lib.hid fun (U : World) (hb : Below w.heap.size w U) => rfirst_any _ l U (hv'.below hb) (by omega) h1
  have hl0 : (l.map leafD).length = l.length := List.length_map ..
  have HL0 : Hid (D32 (l.map leafD) ∧ (l.map leafD).length ≤ 100000 ∧ a0 < (l.map leafD).length) := Lib.hid ⟨leaf32 l, by omega, by omega⟩
  obtain ⟨T, hT⟩ : ∃ T, pathR a0 (l.map leafD) = T := ⟨_, rfl⟩
  rw [hT]
  have HT := Lib.hid hT
  have g1 : ¬ (a0 : Int) < 0 := by omega
  have g2 : ¬ (l.length : Int) ≤ (a0 : Int) := by omega
  clear hv' h1 hp hT hl0 hi
  go_enter Tryd.func13, Tryd.ntmps13
  go_wp2_with (go_at_call 25; refine (HFR.out _ (one_new w _)).mono ?_; rintro e w1 ⟨v1, rfl, hR1⟩; have HU1 := Lib.hid ((row_empty w).later hR1.out.below); have HX1 := Lib.hid (hR1.out.base (one_new w _)); have hap := apart_new (row_empty w) hR1.out)
  clear hR1 HFR
  go_loopw [1, 6, 7] (fun i t r wr => ∃ (a : Nat) (P R : List (List UInt8)), i = .int .i64 (a : Int) ∧ Hid (RowI w wr t P) ∧ Hid (RowI w wr r R) ∧ Hid (Apart t r) ∧ Hid (D32 R ∧ R.length ≤ 100000 ∧ a < R.length) ∧ Hid (P ++ pathR a R = T ∧ P.length + R.length ≤ 200000)) (fun _ _ r _ => lenOf r)
  case atStart => exact ⟨a0, [], _, rfl, HU1, HX1, Lib.hid hap, HL0, Lib.hid ⟨by rw [List.nil_append]; exact HT.out, by have := HL0.out.2.1; simp; omega⟩⟩
  case round =>
    clear HU1 HX1 hap HL0 HT
    obtain ⟨a, P, R, rfl, HU, HX, HA, HL, HP⟩ := hrel
    obtain ⟨p1, c1, rfl⟩ := own_form HX.out.own
    have hld := own_ld HX.out.own
    obtain ⟨h32, hle, haR⟩ := HL.out
    have HAB := Lib.hid (show a < 100000 by omega)
    by_cases h1 : 1 < R.length
    · have h1I : (1 : Int) < (R.length : Int) := by omega
      obtain ⟨b', c', p', hve, hc1, hc2, _, hc4⟩ := id hld
      rcases hc4 with hc4 | ⟨o', rfl, hblt, _⟩
      · rw [hc4] at h1; simp at h1
      cases hve
      unfold maxLen at hc2
      have HN : Hid (∀ U, LD U (.slice (some ⟨b', o', none⟩) R.length c1) R → Calls Tryd.prog 26 #[.slice (some ⟨b', o', none⟩) R.length c1] U (RowR (nextL R) U)) := Lib.hid fun U h => rnext_any _ R U h h32 hle
      have HL2 := Lib.hid (⟨nextL32 h32, by rw [nextL_len]; omega, by rw [nextL_len]; omega⟩ : D32 (nextL R) ∧ (nextL R).length ≤ 100000 ∧ a / 2 < (nextL R).length)
      have hpc := pathR_cons (i := a) h1
      have H1 := Lib.hid h1
      have f3 : ((a : Nat) : Int).tdiv 2 = ((a / 2 : Nat) : Int) := rfl
      have f4 : wrap64 ((a : Int) / 2) = ((a / 2 : Nat) : Int) := by unfold wrap64; omega
      have hPl := HP.out.2
      have hPlen : P.length ≤ 1000000 := by omega
      have HPL := Lib.hid hPlen
      by_cases hodd : a % 2 = 1
      · have e1 : ((a : Nat) : Int).tmod 2 = 1 := by rw [show ((a : Nat) : Int).tmod 2 = ((a % 2 : Nat) : Int) from rfl]; omega
        have f1 : IntKind.i64.wrap ((a : Int) - 1) = ((a - 1 : Nat) : Int) := by rw [IntKind.wrap_i64]; omega
        have hna : ¬ aloneB a R.length = true := by unfold aloneB oth; rw [decide_eq_true_eq]; split <;> omega
        have ho : oth a = a - 1 := by unfold oth; split <;> omega
        obtain ⟨d, hd⟩ : ∃ d, R[a - 1]? = some d := ⟨_, List.getElem?_eq_getElem (by omega)⟩
        have hd32 : d.length = 32 := h32 d (List.mem_of_getElem? hd)
        rw [if_neg hna, ho] at hpc
        have hgd : R.getD (a - 1) [] = d := by simp [List.getD, hd]
        rw [hgd] at hpc
        have HR := Lib.hid (hld.at h32 (a - 1) d hd)
        have hP2 : (P ++ [d]) ++ pathR (a / 2) (nextL R) = T ∧ (P ++ [d]).length + (nextL R).length ≤ 200000 := ⟨by rw [← HP.out.1, hpc, List.append_assoc], by rw [List.length_append, nextL_len]; simp; omega⟩
        have HP2 := Lib.hid hP2
        have b1 : ((a - 1 : Nat) : Int) < (R.length : Int) := by omega
        clear hld h32 hle haR hpc hna ho hd hgd hP2 hPl hPlen hodd h1
        go_wp2_with (first
          | (refine el_load rfl (.tmp 34) rfl b' (o' + (a - 1) * 32) d HR.out hd32 rfl ?_)
          | (refine wpList_bs1 rfl 35 rfl d rfl hd32 ?_; rintro w5 hv5 hb5; have HU5 := Lib.hid (HU.out.later hb5); have HX5 := Lib.hid (HX.out.later hb5))
          | (refine wpList_add rfl 30 36 rfl _ _ rfl rfl _ d HU5.out.own hv5.out HPL.out ?_; rintro v6 w6 ho6 hg6 hn6; have HU6 := Lib.hid (HU5.out.next ho6 hg6 hn6); have HX6 := Lib.hid (row_other HX5.out HA.out hg6 HU6.out); have HA6 := Lib.hid (apart_next HA.out HX5.out.own hn6); clear hg6 hn6)
          | (go_at_call 26; refine (HN.out _ (own_ld HX6.out.own)).mono ?_; rintro e w7 ⟨v7, rfl, hR7⟩; have HU7 := Lib.hid (HU6.out.later hR7.out.below); have HX7 := Lib.hid (hR7.out.base HU6.out.below); have HA7 := Lib.hid (apart_new HU6.out hR7.out)))
        go_roundw
        case rel => exact ⟨a / 2, _, _, by go_num, HU7, HX7, HA7, HL2, HP2⟩
        case measure =>
          obtain ⟨p2, c2, rfl⟩ := own_form HX7.out.own
          have := nextL_len R
          have := H1.out
          simp only [lenOf]
          omega
      · have e1 : ((a : Nat) : Int).tmod 2 = 0 := by rw [show ((a : Nat) : Int).tmod 2 = ((a % 2 : Nat) : Int) from rfl]; omega
        have f1 : IntKind.i64.wrap ((a : Int) + 1) = ((a + 1 : Nat) : Int) := by rw [IntKind.wrap_i64]; omega
        by_cases hal : a + 1 < R.length
        · have b1 : ((a + 1 : Nat) : Int) < (R.length : Int) := by omega
          have hna : ¬ aloneB a R.length = true := by unfold aloneB oth; rw [decide_eq_true_eq]; split <;> omega
          have ho : oth a = a + 1 := by unfold oth; split <;> omega
          obtain ⟨d, hd⟩ : ∃ d, R[a + 1]? = some d := ⟨_, List.getElem?_eq_getElem (by omega)⟩
          have hd32 : d.length = 32 := h32 d (List.mem_of_getElem? hd)
          rw [if_neg hna, ho] at hpc
          have hgd : R.getD (a + 1) [] = d := by simp [List.getD, hd]
          rw [hgd] at hpc
          have HR := Lib.hid (hld.at h32 (a + 1) d hd)
          have hP2 : (P ++ [d]) ++ pathR (a / 2) (nextL R) = T ∧ (P ++ [d]).length + (nextL R).length ≤ 200000 := ⟨by rw [← HP.out.1, hpc, List.append_assoc], by rw [List.length_append, nextL_len]; simp; omega⟩
          have HP2 := Lib.hid hP2
          clear hld h32 hle haR hpc hna ho hd hgd hP2 hPl hPlen hodd h1 hal
          go_wp2_with (first
            | (refine el_load rfl (.tmp 47) rfl b' (o' + (a + 1) * 32) d HR.out hd32 rfl ?_)
            | (refine wpList_bs1 rfl 48 rfl d rfl hd32 ?_; rintro w5 hv5 hb5; have HU5 := Lib.hid (HU.out.later hb5); have HX5 := Lib.hid (HX.out.later hb5))
            | (refine wpList_add rfl 43 49 rfl _ _ rfl rfl _ d HU5.out.own hv5.out HPL.out ?_; rintro v6 w6 ho6 hg6 hn6; have HU6 := Lib.hid (HU5.out.next ho6 hg6 hn6); have HX6 := Lib.hid (row_other HX5.out HA.out hg6 HU6.out); have HA6 := Lib.hid (apart_next HA.out HX5.out.own hn6); clear hg6 hn6)
            | (go_at_call 26; refine (HN.out _ (own_ld HX6.out.own)).mono ?_; rintro e w7 ⟨v7, rfl, hR7⟩; have HU7 := Lib.hid (HU6.out.later hR7.out.below); have HX7 := Lib.hid (hR7.out.base HU6.out.below); have HA7 := Lib.hid (apart_new HU6.out hR7.out)))
          go_roundw
          case rel => exact ⟨a / 2, _, _, by go_num, HU7, HX7, HA7, HL2, HP2⟩
          case measure =>
            obtain ⟨p2, c2, rfl⟩ := own_form HX7.out.own
            have := nextL_len R
            have := H1.out
            simp only [lenOf]
            omega
        · have b1 : ¬ ((a + 1 : Nat) : Int) < (R.length : Int) := by omega
          have hna : aloneB a R.length = true := by unfold aloneB oth; rw [decide_eq_true_eq]; split <;> omega
          rw [if_pos hna, List.nil_append] at hpc
          have hP2 : P ++ pathR (a / 2) (nextL R) = T ∧ P.length + (nextL R).length ≤ 200000 := ⟨by rw [← HP.out.1, hpc], by rw [nextL_len]; omega⟩
          have HP2 := Lib.hid hP2
          clear hld h32 hle haR hpc hna hP2 hPl hPlen hodd h1 hal
          go_wp2_with (go_at_call 26; refine (HN.out _ (own_ld HX.out.own)).mono ?_; rintro e w7 ⟨v7, rfl, hR7⟩; have HU7 := Lib.hid (HU.out.later hR7.out.below); have HX7 := Lib.hid (hR7.out.base HU.out.below); have HA7 := Lib.hid (apart_new HU.out hR7.out))
          go_roundw
          case rel => exact ⟨a / 2, _, _, by first | go_num | rw [f4], HU7, HX7, HA7, HL2, HP2⟩
          case measure =>
            obtain ⟨p2, c2, rfl⟩ := own_form HX7.out.own
            have := nextL_len R
            have := H1.out
            simp only [lenOf]
            omega
    · have h1I : ¬ (1 : Int) < (R.length : Int) := by omega
      have hPT : P = T := by
        have := HP.out.1
        rw [pathR_one (by omega), List.append_nil] at this
        exact this
      subst hPT
      go_wp2_with fail
      go_ret2
      exact ⟨_, rfl, HU⟩
set_option maxRecDepth 100000 in
set_option maxHeartbeats 4000000 in
theorem spec_law (v : Value) (l : List (List UInt8)) (i : Int) (w : World) (hv' : LB w v l) (_hi : -9223372036854775808 ≤ i ∧ i ≤ 9223372036854775807) (hk : KOK w) : Calls Tryd.prog 3 #[v, .int .i64 i] w (Ret (.bool true) w) := by
  have HV := Lib.hid hv'
  have HK := Lib.hid hk
  have SN := Lib.hid (sane_any w hk)
  have FW := Lib.hid fun (U : World) (hb : Below w.heap.size w U) => few_any v l U (hv'.below hb)
  obtain ⟨p, c, hvf⟩ : ∃ p c, v = .slice p l.length c := by
    obtain ⟨_, c, p, e, _⟩ := hv'
    exact ⟨p, c, e⟩
  clear hv' hk
  cases hf : fewB l
  · rw [hf] at FW
    subst hvf
    go_enter Tryd.func3, Tryd.ntmps3
    go_wp2_with (first
      | (go_at_call 10; refine SN.out.mono ?_; rintro e w1 ⟨rfl, hb1⟩; have HB1 := Lib.hid hb1; clear SN)
      | (go_at_call 11; refine (FW.out _ HB1.out).mono ?_; rintro e w2 ⟨rfl, rfl⟩))
    go_ret
    exact ⟨rfl, HB1.out⟩
  have hfy := few_yes hf
  rw [hf] at FW
  have PR := Lib.hid fun (U : World) (hb : Below w.heap.size w U) => Prove_any v l i U (HV.out.below hb) (fun x hx => by have := hfy.2 x hx; omega) (HK.out.below hb)
  have PQ := Lib.hid fun (U : World) (hb : Below w.heap.size w U) => rprove_any v l i U (HV.out.below hb) (by omega) (fun x hx => by have := hfy.2 x hx; omega)
  have RT := Lib.hid fun (U : World) (hb : Below w.heap.size w U) => Root_any v l U (HV.out.below hb) (by omega) (fun x hx => by have := hfy.2 x hx; omega) (HK.out.below hb)
  have RQ := Lib.hid fun (U : World) (hb : Below w.heap.size w U) => rroot_any v l U (HV.out.below hb) (by omega) (fun x hx => by have := hfy.2 x hx; omega)
  have hRl := rootD_len l
  have hEQ : ∀ w, (Op.equalIn 10000 30 (dgv (rootD l)) (dgv (rootD l))).run Tryd.prog w = .ok true w := fun w => by rw [dg_equal _ _ hRl hRl, beq_self_eq_true]
  have hD : D32 (proveD l i) ∧ (proveD l i).length ≤ 1000000 := by
    unfold proveD
    by_cases hp : placeB (l.length : Int) i = true
    · rw [if_pos hp]
      obtain ⟨a, s, rfl, hs, has, hs2⟩ := place_nat hp
      have ha : a < l.length := by omega
      rw [Int.toNat_natCast]
      refine ⟨d32_path l a ha, ?_⟩
      rw [(climb_root l a l[a] (List.getElem?_eq_getElem ha)).2]
      have := plen_16 (i := a) (n := l.length) (by omega)
      omega
    · rw [if_neg hp]
      exact ⟨(fun d hd => by cases hd), by simp⟩
  have SM := Lib.hid fun (U : World) (x y : Value) (hx : LD U x (proveD l i)) (hy : LD U y (proveD l i)) => rsame_eq x y _ U hx hy hD.1 hD.2
  generalize proveD l i = P at *
  generalize proveE l i = E at *
  generalize rootD l = R at *
  clear hD hfy hf
  subst hvf
  go_enter Tryd.func3, Tryd.ntmps3
  go_wp2_with (first
    | (go_at_call 10; refine SN.out.mono ?_; rintro e w1 ⟨rfl, hb1⟩; have HB1 := Lib.hid hb1; clear SN)
    | (go_at_call 11; refine (FW.out _ HB1.out).mono ?_; rintro e w2 ⟨rfl, rfl⟩; clear FW)
    | (go_at_call 12; refine (PR.out _ HB1.out).mono ?_; rintro e w3 ⟨v3, rfl, hR3⟩; obtain ⟨p3, c3, rfl⟩ := own_form hR3.out.own; have HB3 := Lib.hid (HB1.out.trans (hR3.out.below.mono HB1.out.size)); have L3 := Lib.hid (own_ld hR3.out.own); clear PR hR3)
    | (go_at_call 13; refine (PQ.out _ HB3.out).mono ?_; rintro e w4 ⟨v4, rfl, hR4⟩; obtain ⟨p4, c4, rfl⟩ := own_form hR4.out.own; have HB4 := Lib.hid (HB3.out.trans (hR4.out.below.mono HB3.out.size)); have L4 := Lib.hid (own_ld hR4.out.own); have L34 := Lib.hid (L3.out.below hR4.out.below); clear PQ hR4)
    | (go_at_call 14; refine (RT.out _ HB4.out).mono ?_; rintro e w5 ⟨rfl, hb5⟩; have HB5 := Lib.hid (HB4.out.trans (hb5.mono HB4.out.size)); have L45 := Lib.hid (L4.out.below hb5); have L35 := Lib.hid (L34.out.below hb5); clear RT)
    | (go_at_call 15; refine (RQ.out _ HB5.out).mono ?_; rintro e w6 ⟨rfl, hb6⟩; have HB6 := Lib.hid (HB5.out.trans (hb6.mono HB5.out.size)); have L46 := Lib.hid (L45.out.below hb6); have L36 := Lib.hid (L35.out.below hb6); clear RQ)
    | (go_at_call 16; refine (SM.out _ _ _ L36.out L46.out).mono ?_; rintro e w7 ⟨rfl, hb7⟩; have HB7 := Lib.hid (HB6.out.trans (hb7.mono HB6.out.size))))
  go_ret
  exact ⟨rfl, HB7.out⟩
end Go.Proofs.YteeabenmfmeooaaDoor
