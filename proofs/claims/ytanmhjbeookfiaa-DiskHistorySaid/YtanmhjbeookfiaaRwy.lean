/-
  Disks: the reference's Write, where it writes.
-/
import Derived.Test.YtanmhjbeookfiaaRwr
namespace Go.Proofs.Ytanmhjbeookfiaa
open Go Go.RowKit
theorem bv_src {w : World} {v : Value} {l : List UInt8} (h : BV w v l) : Src Try.prog 1 35 v l.length (l.map byt) w := by
  obtain ⟨b, cap, p, rfl, h1, h2, h3, h4⟩ := h
  have hone : ∀ u ∈ l.map byt, u.oneCell' = true := fun u hu => by
    obtain ⟨c, _, rfl⟩ := List.mem_map.1 hu
    rfl
  rcases p with _ | a
  · obtain rfl := h3 rfl
    obtain rfl : l = [] := by
      rcases h4 with h4 | ⟨o, e, _⟩
      · exact h4
      · cases e
    exact Src.ofNil w Try.underlying35 0
  · refine Src.ofSlice w Try.underlying35 a l.length cap (l.map byt) (by simp) (fun j u hu => ?_) hone
    rw [List.getElem?_map] at hu
    cases hlj : l[j]? with
    | none => rw [hlj] at hu; cases hu
    | some c =>
      rw [hlj] at hu
      cases hu
      rcases h4 with rfl | ⟨o, e, _, hc⟩
      · cases hlj
      · obtain rfl : a = ⟨b, o, none⟩ := by simpa using e
        rw [Addr.add_lit]
        exact hc j c hlj
theorem own_bv {w : World} {v : Value} {l : List UInt8} (h : Own w v (l.map byt)) : BV w v l := by
  rcases h with ⟨rfl, hx⟩ | ⟨g, cap, rfl, h⟩
  · obtain rfl := List.map_eq_nil_iff.1 hx
    exact ⟨0, 0, none, rfl, Nat.le_refl _, by unfold maxLen; omega, fun _ => rfl, .inl rfl⟩
  · have h1 := h.le
    have h2 := h.mx
    unfold maxLen at h2
    rw [List.length_map] at h1 ⊢
    refine ⟨g, cap, _, rfl, h1, by unfold maxLen; omega, (fun e => by cases e), .inr ⟨0, rfl, h.lt, fun j c hj => ?_⟩⟩
    rw [Nat.zero_add]
    exact h.cells j _ (by rw [List.getElem?_map, hj]; rfl)
/-- append bytes to a slice of bytes of one's own -/
theorem bytes_own {ops : Array Oper} {rest : List Oper} {o : Oper} {a : Act} {w : World} {Q : Exit → Act → World → Prop} (hgd : o.guard = none) (s x : Operand) (ho : o.op = .call { callee := .builtin .append, args := #[s, x], argTypes := #[35, 35] })
    (v xv : Value) (l l' : List UInt8) (hs : a.eval s = v) (hown : Own w v (l.map byt)) (hx : a.eval x = xv) (hb : BV w xv l') (hl : l.length + l'.length ≤ 1099511627776)
    (h : ∀ v' w', Hid (Own w' v' ((l ++ l').map byt)) → w.grownBy w' v.ownBlock → (v'.ownBlock = v.ownBlock ∨ ∃ k, v'.ownBlock = some k ∧ w.heap.size ≤ k) → wpList Try.prog ops Q rest (a.put o.dst v') w') : wpList Try.prog ops Q (o :: rest) a w := by
  have h5 := info5
  cases hi : Try.prog.info? 5 with
  | none => rw [hi] at h5; cases h5
  | some i =>
    rw [hi] at h5
    simp only [Option.map_some, Option.some.injEq, Prod.mk.injEq] at h5
    obtain ⟨s1, s2, s3⟩ := h5
    refine wpList_own hgd s x 35 35 ho 5 i (.int .u8 0) 1 Try.underlying35 hi s3 s1 s2 rfl v xv (l.map byt) hs hown l'.length (l'.map byt) hx (bv_src hb) (by rw [List.length_map]; unfold maxLen; omega) (by rw [List.length_map]; omega) ?_
    intro v' w' h1 h2 h3
    exact h v' w' (Lib.hid (by rw [List.map_append]; exact h1)) h2 h3
theorem own_from {w : World} {v v' : Value} {m : Nat} (hv : ∀ j, v.ownBlock = some j → m ≤ j) (hm : m ≤ w.heap.size) (h : v'.ownBlock = v.ownBlock ∨ ∃ k, v'.ownBlock = some k ∧ w.heap.size ≤ k) : ∀ j, v'.ownBlock = some j → m ≤ j := fun j e => by
  rcases h with h | ⟨k, h, h'⟩
  · exact hv j (by rw [← h]; exact e)
  · rw [h] at e
    have e' : k = j := Option.some.inj e
    omega
theorem own_nil5 (w : World) : Own (w.alloc (.cells #[] 5)) (.slice (some ⟨w.heap.size, 0, none⟩) 0 0) (([] : List UInt8).map byt) := Own.made w #[] 5 0 (by simp) (by simp)
theorem bv_one (w : World) (c : UInt8) : BV (w.alloc (.cells #[byt c] 5)) (.slice (some ⟨w.heap.size, 0, none⟩) 1 1) [c] :=
  ⟨w.heap.size, 1, _, rfl, Nat.le_refl _, by unfold maxLen; omega, (fun e => by cases e), .inr ⟨0, rfl, by simp, fun j c' hj => by
    rw [Nat.zero_add, World.cell?_alloc_new]
    rcases j with _ | j
    · simp at hj
      simp [hj]
    · simp at hj⟩⟩
theorem fill_pad {l : List UInt8} {j : Nat} (h : l.length + j = 128) : l ++ List.replicate j (0 : UInt8) = fill l := by
  unfold fill over
  rw [List.take_of_length_le (by omega), List.drop_replicate, show 128 - l.length = j by omega]
theorem own_shp {w : World} {v : Value} {xs : List Value} (h : Own w v xs) : ∃ p c, v = .slice p xs.length c := by
  rcases h with ⟨rfl, rfl⟩ | ⟨g, c, rfl, _⟩
  · exact ⟨none, 0, rfl⟩
  · exact ⟨_, c, rfl⟩
theorem half_nil {w1 wr : World} (hb : Below w1.heap.size w1 wr) : Half w1 (wr.alloc (.cells #[] 54)) (.slice (some ⟨wr.heap.size, 0, none⟩) 0 0) 0 [] :=
  ⟨.inr ⟨wr.heap.size, 0, rfl, ⟨Nat.le_refl _, by unfold maxLen; omega, by simp, rfl, fun j hj => by omega, fun j => by simp, fun j u hu => by cases hu⟩⟩, hb.trans ((one_new _ _).mono hb.size), fun k e => by cases e; exact hb.size⟩
theorem Half.alloc {w1 wr : World} {v : Value} {n : Nat} {xs : List Value} (h : Half w1 wr v n xs) (o : Obj) : Half w1 (wr.alloc o) v n xs := ⟨h.own.alloc o, h.below.trans ((one_new _ _).mono h.below.size), h.new⟩
theorem Half.pvg {w1 w6 : World} {v : Value} {n : Nat} {xs : List Value} {s : List (Int × List UInt8)} (h : Half w1 w6 v n xs) (hn : s.length = n) (h0 : 0 < n) (hc : Cells w6 xs s) : ∃ G c, v = .slice (some ⟨G, 0, none⟩) n c ∧ PVg w1.heap.size w6 v s := by
  rcases h.own with ⟨_, h, _⟩ | ⟨G, c, rfl, ho⟩
  · omega
  · refine ⟨G, c, rfl, G, c, by rw [hn], by rw [hn]; exact ho.le, ho.mx, h.new G rfl, ho.lt, fun j x hj => ?_⟩
    obtain ⟨u, h1, h2, h3, h4⟩ := hc j x hj
    exact ⟨u, ho.cells _ _ h1, ho.cells _ _ h2, h3, h4⟩
set_option maxRecDepth 4000 in
set_option maxHeartbeats 2000000 in
theorem rwrite_yes (v : Value) (d : D) (a : Int) (bv : Value) (l : List UInt8) (w : World) (h : DV w v d) (hb : BV w bv l) (hn : writeE d a l = 0) (ha : W64 a) : Calls Try.prog 20 #[v, .int .i64 a, bv] w (RetD (writeD d a l) 0 w) := by
  have hz : writeD d a l = ⟨d.s, d.p ++ [(a, fill l)], d.left, d.st⟩ := by unfold writeD; rw [if_pos hn]
  rw [hz]
  have hrun : runsB d = true ∧ inB d.s.length a = true ∧ ¬ 128 < l.length ∧ ¬ d.p.length = 4096 := by
    unfold writeE at hn
    split at hn
    · rename_i hc
      split at hn
      · omega
      · split at hn
        · omega
        · exact ⟨hc.1, hc.2, by assumption, by assumption⟩
    · omega
  obtain ⟨hr, hi, hl, hm⟩ := hrun
  obtain ⟨hv, hst⟩ := runs_of hr
  have h40 := (valid_of hv).2.2.2.1
  obtain ⟨ps, N, cs, pp, M, cp, rfl, HO, hs1, hs2, hp1, hp2⟩ := h.op
  clear h
  have HR : Hid (∀ w', Below w.heap.size w w' → Calls Try.prog 16 #[dval d ps N cs pp M cp] w' (Ret (.int .i64 0) w')) := Lib.hid fun w' hb => by
    have := rcheck_any _ d w' (HO.out.below hb).dv
    rwa [chk_ok hv] at this
  obtain ⟨pb, cb, rfl, hl1, hl2⟩ := hb.shape
  have HBV := Lib.hid hb
  have HA := Lib.hid ha
  have HST := Lib.hid hst
  have hN := HO.out.n
  have hM := HO.out.m
  unfold inB at hi
  have hi' := of_decide_eq_true hi
  have a1 : ¬ a < 0 := by omega
  have a2 : ¬ (N : Int) ≤ a := by omega
  have a3 : ¬ (128 : Int) < (l.length : Int) := by omega
  have a4 : ((M : Int) == 4096) = false := by simp; omega
  have a5 : M ≤ 4096 := by omega
  have HM := Lib.hid hM
  clear hr hv hst hi hi' hn hz hb ha hN hM hm h40
  go_enter Try.func20, Try.ntmps20
  go_wp2_with (first
    | (go_at_call 16; refine (HR.out _ (two_below _ _ _)).mono ?_; rintro e w1 ⟨rfl, hb1⟩; obtain ⟨⟨c0, c1, c2, c3⟩, r, f, hz1⟩ := boxedR (by simp) hb1; have HB := Lib.hid (two_later hb1); clear hb1; have q := HST.out)
    | (at_builtin; go_loud (refine bytes_own rfl (.tmp 37) (.tmp 38) rfl (.slice (some ⟨w1.heap.size, 0, none⟩) 0 0) (.slice pb l.length cb) [] l rfl (own_nil5 w1) rfl (HBV.out.below (HB.out.trans ((one_new _ _).mono HB.out.size))) (by simp; omega) ?_; rintro v2 w2 O2 hg2 hv2; rw [List.nil_append] at O2; have ob2 := own_from (m := w1.heap.size) (v := .slice (some ⟨w1.heap.size, 0, none⟩) 0 0) (fun k e => by cases e; exact Nat.le_refl _) (by simp) hv2; have hb2 := grown_bel (one_new w1 _) (by simp) hg2 (fun k e => by cases e; exact Nat.le_refl _); obtain ⟨p2, k2, e2⟩ := own_shp O2.out; rw [List.length_map] at e2; subst e2; have HB2 := Lib.hid hb2; have OB2 := Lib.hid ob2; clear hg2 hv2 hb2 ob2)))
  go_loopw [8] (fun x wr => ∃ (j c : Nat) (p : Option Addr), l.length + j ≤ 128 ∧ x = .slice p (l.length + j) c ∧ Hid (Own wr x ((l ++ List.replicate j (0 : UInt8)).map byt)) ∧ Hid (Below w1.heap.size w1 wr) ∧ Hid (∀ k, x.ownBlock = some k → w1.heap.size ≤ k)) (fun x _ => 128 - (match x with | .slice _ m _ => m | _ => 0))
  case atStart => exact ⟨0, k2, p2, by omega, rfl, Lib.hid (by simpa using O2.out), HB2, OB2⟩
  case round =>
    clear O2 HB2 OB2
    obtain ⟨j, c, p, hj, rfl, ho, hb, hob⟩ := hrel
    by_cases hlt : l.length + j < 128
    · have a6 : (l.length : Int) + (j : Int) < 128 := by omega
      clear hj hlt
      go_wp2_with (at_builtin; refine bytes_own rfl (.tmp 43) (.tmp 44) rfl (.slice p (l.length + j) c) (.slice (some ⟨wr.heap.size, 0, none⟩) 1 1) (l ++ List.replicate j (0 : UInt8)) [0] rfl (ho.out.alloc _) rfl (bv_one wr 0) (by simp; omega) ?_; rintro v5 w5 O5 hg5 hv5)
      have hbx := hb.out.trans ((one_new wr (.cells #[byt 0] 5)).mono hb.out.size)
      have ob5 := own_from hob.out hbx.size hv5
      have hb5 := grown_bel hbx hbx.size hg5 (fun k e => hob.out k e)
      rw [List.append_assoc, show List.replicate j (0 : UInt8) ++ [0] = List.replicate (j + 1) 0 from (List.replicate_succ' ..).symm] at O5
      obtain ⟨p5, k5, e5⟩ := own_shp O5.out
      rw [List.length_map, List.length_append, List.length_replicate] at e5
      subst e5
      go_roundw
      case rel => exact ⟨j + 1, k5, p5, (by omega : l.length + (j + 1) ≤ 128), rfl, O5, Lib.hid hb5, Lib.hid ob5⟩
      case measure => simp; omega
    · have hj' : l.length + j = 128 := by omega
      have hfp := fill_pad hj'
      rw [hfp] at ho
      rw [hj'] at ho
      rw [hj'] at hob
      simp only [hj']
      clear hj hlt hj' hfp
      have c1r := (bcells hb.out (show w.heap.size < w1.heap.size by omega) 1).trans c1
      have hzr : w.heap.size < wr.heap.size := by have := hb.out.size; omega
      have c1a : ∀ o : Obj, (wr.alloc o).cell? ⟨w.heap.size, 1, none⟩ = some (.slice pp M cp) := fun o => (bcells (one_new _ _) hzr 1).trans c1r
      have hbw := HB.out.trans (hb.out.mono HB.out.size)
      have HBW := Lib.hid hbw
      obtain ⟨xs, hwl, hcl⟩ := (HO.out.below hbw).pen.wl
      rw [HM.out] at hwl
      have HWL := Lib.hid hwl
      have HCL := Lib.hid hcl
      clear hbw hwl hcl
      have HBY := Lib.hid (own_bv ho.out)
      have HWR := Lib.hid hb.out
      have HP6 : Hid (∀ (v6 : Value) (w6 : World), Half wr w6 v6 (M + 1) (xs ++ [.int .i64 a, .slice p 128 c]) → ∃ G k, v6 = .slice (some ⟨G, 0, none⟩) (M + 1) k ∧ PVg wr.heap.size w6 v6 (d.p ++ [(a, fill l)])) := Lib.hid fun v6 w6 H => H.pvg (by rw [List.length_append, HM.out]; rfl) (by omega) (Cells.append (HCL.out.below H.below) (oneCells HA.out (HBY.out.below H.below)) (by rw [HM.out]; obtain ⟨_, _, _, _, _, _, h, _⟩ := HWL.out; exact h))
      clear ho hob hb
      go_wp2_with (first
        | (at_builtin; refine wpList_writes rfl (.tmp 46) (.tmp 48) rfl (w := wr) (.slice (some ⟨wr.heap.size, 0, none⟩) 0 0) (.slice pp M cp) 0 M [] xs rfl rfl (Lib.hid (half_nil (Below.refl _ _))) (HWL.out.below (one_new _ _)) (by omega) ?_; intro v5 w5 H5; rw [Nat.zero_add, List.nil_append] at H5)
        | (at_builtin; refine wpList_writes rfl (.tmp 49) (.tmp 53) rfl (w := wr) v5 (.slice (some ⟨w5.heap.size, 0, none⟩) 1 1) M 1 xs [.int .i64 a, .slice p 128 c] rfl rfl (Lib.hid (H5.out.alloc _)) (oneWL (by simp) (by simp) (by simp) rfl) (by omega) ?_; intro v6 w6 H6; obtain ⟨G, k6, e6, hp6⟩ := HP6.out v6 w6 H6.out; subst e6; have hb6 := HWR.out.trans (H6.out.below.mono HWR.out.size); have e0 := (bcells hb6 (show w.heap.size < w1.heap.size by omega) 0).trans c0; have e1 := (bcells hb6 (show w.heap.size < w1.heap.size by omega) 1).trans c1; have e2 := (bcells hb6 (show w.heap.size < w1.heap.size by omega) 2).trans c2; have e3 := (bcells hb6 (show w.heap.size < w1.heap.size by omega) 3).trans c3; have f4 : (∀ o, w6.frozen? ⟨w.heap.size, o, none⟩ = false) := (fun o => (bfrozen hb6 (show w.heap.size < w1.heap.size by omega) o).trans (f o)); have r4 := Lib.hid ((hb6.block _ hz1).trans r.out); have HB6 := Lib.hid hb6; have HP4 := Lib.hid hp6; clear hp6 hb6)
        | (refine dk_store rfl (.tmp 6) (.tmp 56) rfl (w.heap.size + 1) _ _ _ _ _ (row_set r4.out (by omega)) rfl rfl rfl ⟨rfl, rfl, rfl, rfl⟩ ?_; rintro w7 r7 hc7))
      have hp7 := (HP4.out.setBox (k := w.heap.size) (o := 1) (by omega) e1 nb_slice (.slice (some ⟨G, 0, none⟩) (M + 1) k6)).chgRow (R := w.heap.size + 1) (by have := HWR.out.size; omega) (row_set r4.out (by omega)) zero_nb hc7
      have hb4 := HB.out.trans (HB6.out.mono HB.out.size)
      have hb7 : Below w.heap.size w w7 := Chg.below (below_set hb4 (Nat.le_refl _) _) (by have := hb4.size; simpa [World.setCell] using this) (by omega) hc7
      refine bodyPost_ret (results_dk rfl _ _ _ _ _ _ _ _ rfl rfl r7.out) rfl ?_
      exact ⟨_, rfl, ⟨_, _, by rw [HST.out], (HO.out.below hb7).sec, hp7.pv, HO.out.left⟩, hb7⟩
theorem rwrite_any (v : Value) (d : D) (a : Int) (bv : Value) (l : List UInt8) (w : World) (h : DV w v d) (hb : BV w bv l) (ha : W64 a) : Calls Try.prog 20 #[v, .int .i64 a, bv] w (RetD (writeD d a l) (writeE d a l) w) := by
  by_cases hn : writeE d a l = 0
  · rw [hn]
    exact rwrite_yes v d a bv l w h hb hn ha
  · exact rwrite_bad v d a bv l w h hb hn
end Go.Proofs.Ytanmhjbeookfiaa
