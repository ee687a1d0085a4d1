/-
  Merkle: prove.
-/
import Derived.Test.YteeabenmfmeooaaDoorPs
import Derived.Deep.CutRange
import Derived.Deep.RegionHeld3
import Derived.Sort.CutIn
namespace Go.Proofs.YteeabenmfmeooaaDoor
open Go Go.RowKit Go.Shelf
attribute [local go_sem] Oper.semAt_some
def PV (w W1 : World) (gr Bi Bn i n : Nat) (x : PS) (k : Nat) (V : World) : Prop := ∃ rv sv, PW w W1 gr Bi Bn i n (psL (stepsL i n) k x).2 (psL (stepsL i n) k x).1 V rv sv
theorem pv_world (w w1 : World) (sv : Value) (r0 : List (List UInt8)) (n i : Nat) (hR : RowI ((w.alloc (.cells #[hv] 45)).alloc (.cells #[.slice none 0 0] 25)) w1 sv r0) (hp : 0 < r0.length) : ∃ W1, (((w1.alloc (.cells #[sv] 25)).alloc (.cells #[.int .i64 (n : Int)] 3)).alloc (.cells #[.int .i64 (i : Int)] 3)) = W1 ∧ W1.heap.size = w1.heap.size + 3 ∧ w.heap.size + 2 ≤ w1.heap.size ∧
    PW w W1 w1.heap.size (w1.heap.size + 1 + 1) (w1.heap.size + 1) i n [] r0 W1 (.slice none 0 0) sv := by
  have hz0 : ((w.alloc (.cells #[hv] 45)).alloc (.cells #[.slice none 0 0] 25)).heap.size = w.heap.size + 2 := by simp
  have hb0 : Below w.heap.size w ((w.alloc (.cells #[hv] 45)).alloc (.cells #[.slice none 0 0] 25)) := (one_new w _).alloc (by simp) _
  have hb1 := hR.below
  have hs1 := hb1.size
  have k0 : ((w.alloc (.cells #[hv] 45)).alloc (.cells #[.slice none 0 0] 25)).cell? ⟨w.heap.size, 0, none⟩ = some hv := by go_simp
  have k1 : ((w.alloc (.cells #[hv] 45)).alloc (.cells #[.slice none 0 0] 25)).cell? ⟨w.heap.size + 1, 0, none⟩ = some (.slice none 0 0) := by go_simp
  have k2 : ((w.alloc (.cells #[hv] 45)).alloc (.cells #[.slice none 0 0] 25)).frozen? ⟨w.heap.size + 1, 0, none⟩ = false := by go_simp
  generalize ((w.alloc (.cells #[hv] 45)).alloc (.cells #[.slice none 0 0] 25)) = W0 at *
  have hb2 : Below w1.heap.size w1 (((w1.alloc (.cells #[sv] 25)).alloc (.cells #[.int .i64 (n : Int)] 3)).alloc (.cells #[.int .i64 (i : Int)] 3)) := (((Below.refl _ w1).alloc (Nat.le_refl _) _).alloc (by simp) _).alloc (by simp; omega) _
  have hb3 : Below W0.heap.size W0 (((w1.alloc (.cells #[sv] 25)).alloc (.cells #[.int .i64 (n : Int)] 3)).alloc (.cells #[.int .i64 (i : Int)] 3)) := hb1.trans (hb2.mono hs1)
  have e1 : (((w1.alloc (.cells #[sv] 25)).alloc (.cells #[.int .i64 (n : Int)] 3)).alloc (.cells #[.int .i64 (i : Int)] 3)).cell? ⟨w1.heap.size, 0, none⟩ = some sv := by go_simp
  have e2 : (((w1.alloc (.cells #[sv] 25)).alloc (.cells #[.int .i64 (n : Int)] 3)).alloc (.cells #[.int .i64 (i : Int)] 3)).frozen? ⟨w1.heap.size, 0, none⟩ = false := by go_simp
  have e3 : (((w1.alloc (.cells #[sv] 25)).alloc (.cells #[.int .i64 (n : Int)] 3)).alloc (.cells #[.int .i64 (i : Int)] 3)).cell? ⟨w1.heap.size + 1, 0, none⟩ = some (.int .i64 (n : Int)) := by go_simp
  have e4 : (((w1.alloc (.cells #[sv] 25)).alloc (.cells #[.int .i64 (n : Int)] 3)).alloc (.cells #[.int .i64 (i : Int)] 3)).cell? ⟨w1.heap.size + 1 + 1, 0, none⟩ = some (.int .i64 (i : Int)) := by go_simp
  have hz3 : (((w1.alloc (.cells #[sv] 25)).alloc (.cells #[.int .i64 (n : Int)] 3)).alloc (.cells #[.int .i64 (i : Int)] 3)).heap.size = w1.heap.size + 3 := by simp
  refine ⟨_, rfl, hz3, by omega, (hb3.cell (p := ⟨w.heap.size, 0, none⟩) (by simp only; omega)).trans k0, ⟨(hb3.cell (p := ⟨w.heap.size + 1, 0, none⟩) (by simp only; omega)).trans k1, (hb3.frozen (p := ⟨w.heap.size + 1, 0, none⟩) (by simp only; omega)).trans k2, .inl ⟨rfl, rfl, rfl⟩, (fun j e => by cases e), (fun j e => by cases e)⟩, e1, e2, own_keep hR.own hb2, fun j hj => ?_, ⟨e4, e3⟩, hb0.trans (hb3.mono (by omega)), Nat.le_refl _, fun _ => rfl⟩
  have h1 := hR.new j hj
  have h2 := hR.own.lt hj
  refine ⟨by omega, by omega, (fun e => by cases e), ?_⟩
  rw [hb2.block j h2]
  exact own_cells hR.own hp j hj
set_option maxRecDepth 100000 in
set_option maxHeartbeats 4000000 in
theorem prove_any (v : Value) (l : List (List UInt8)) (i : Nat) (w : World) (hv' : LB w v l) (hn : l.length ≤ 65536) (hi : i < l.length) (h1 : ∀ x ∈ l, x.length ≤ 1000000) (hk : KOK w) : Calls Tryd.prog 24 #[hv, v, .int .i64 (i : Int)] w (RowR (pathL i l) w) := by
  have HV := Lib.hid hv'
  have HK := Lib.hid hk
  have H1 := Lib.hid h1
  obtain ⟨p0, c0', rfl⟩ : ∃ p c, v = .slice p l.length c := by
    obtain ⟨_, c, p, e, _⟩ := hv'
    exact ⟨p, c, e⟩
  have HFR := Lib.hid fun (U : World) (hb : Below w.heap.size w U) => first_any _ l U (HV.out.below hb) (by omega) H1.out (HK.out.below hb)
  have hPL : Hid (pathL i l = (psL (stepsL i l.length) (stepsL i l.length).length (l.map leafD, [])).2) := Lib.hid rfl
  have hx0 : Hid (D32 (l.map leafD) ∧ (l.map leafD).length = l.length) := Lib.hid ⟨leaf32 l, List.length_map ..⟩
  generalize hPE : pathL i l = PE at *
  generalize l.map leafD = r0 at *
  obtain ⟨n, hnn⟩ : ∃ n, l.length = n := ⟨_, rfl⟩
  rw [hnn] at hPL hx0 hn hi HV HFR ⊢
  clear hv' hk h1 hPE H1 HV hnn
  have HX0 := Lib.hid (((one_new w (.cells #[hv] 45)).alloc (by simp) (.cells #[.slice none 0 0] 25)))
  refine (callsIn_wide (n := 3)).1 ?_
  refine callsIn_of_wp_marks Tryd.func24 rfl trivial ?_ rfl
  simp only [Tryd.ntmps24, List.size_toArray, List.length_cons, List.length_nil, Nat.reduceAdd, Nat.reduceSub, Array.replicate_succ, Array.replicate_zero, List.push_toArray, List.append_toArray, List.nil_append, List.cons_append]
  gi_wp2_with (first
    | (refine ⟨trivial, ?_⟩; gi_at_call 39; refine (callsIn_wide.2 (HFR.out _ HX0.out)).mono ?_; rintro e w1 ⟨v1, rfl, hR1⟩; obtain ⟨pz, mz, cz, rfl⟩ := own_form3 hR1.out.own)
    | (refine ⟨trivial, ?_⟩; gi_at_call 40; refine (steps_mk _ _ _ _).mono ?_; rintro e w' ⟨rfl, rfl⟩))
  obtain ⟨W1, hW1, hsz1, hw2, hPW0⟩ := pv_world w w1 (.slice pz mz cz) r0 n i hR1.out (by have := hx0.out.2; omega)
  rw [hW1]
  have hP0 : PV w W1 w1.heap.size (w1.heap.size + 1 + 1) (w1.heap.size + 1) i n (r0, []) 0 W1 := ⟨_, _, hPW0⟩
  clear hW1 hPW0 hR1
  obtain ⟨gr, hgr⟩ : ∃ gr, w1.heap.size = gr := ⟨_, rfl⟩
  rw [hgr] at hP0 hsz1 hw2 ⊢
  clear hgr
  refine wpIn_range (w := W1) rfl (by omega) (gf := 54) (lb := #[.pointer (some ⟨gr + 1 + 1, 0, none⟩), .pointer (some ⟨gr + 1, 0, none⟩)]) rfl trivial (enters_of Tryd.func54 (by kernel_rfl) rfl) (steps_in 2 (by omega) (gr + 1 + 1) (gr + 1) i n hn (by omega)) (fun _ => rfl)
    (PV w W1 gr (gr + 1 + 1) (gr + 1) i n (r0, [])) (fun _ _ => False) (fun k A V row hs hg hr => by obtain ⟨rv, sv, h⟩ := hs; exact ⟨rv, sv, h.own (by omega) hg hr⟩) (fun c A V row hs _ _ => hs) (fun k V h => by obtain ⟨rv, sv, h⟩ := h; exact h.b) hP0
    (fun z a' V => ∃ Bx, W1.heap.size ≤ Bx ∧ V.cell? ⟨Bx, 0, none⟩ = some (.int .i64 (z.1 : Int)) ∧ V.cell? ⟨Bx, 1, none⟩ = some (.int .i64 (z.2 : Int)) ∧ a' = { tmps := #[hv, .slice p0 n c0', .int .i64 (i : Int), .pointer (some ⟨w.heap.size, 0, none⟩), undef, undef, .pointer (some ⟨w.heap.size + 1, 0, none⟩), .pointer (some ⟨gr, 0, none⟩), .pointer (some ⟨Bx, 0, none⟩), hv, .slice p0 n c0', .slice pz mz cz, .slice p0 n c0', .int .i64 (n : Int), .int .i64 (i : Int), .func (.func 54) #[] #[.pointer (some ⟨gr + 1 + 1, 0, none⟩), .pointer (some ⟨gr + 1, 0, none⟩)], stv z.1 z.2, undef, undef, undef, undef, undef, undef, undef, undef, undef, undef, undef, undef, undef, undef, undef], defers := [] })
    (fun z a' _ A V row hs hg hr => by obtain ⟨Bx, e1, e2, e3, e4⟩ := hs; exact ⟨Bx, e1, own_cell e2 hg hr, own_cell e3 hg hr, e4⟩)
    ?assign ?body ?done ?stop
  case assign =>
    rintro l2 k z V K hz hVs hP hK
    obtain ⟨rv, sv, hP⟩ := hP
    have hVW := hP.size
    gi_wp2
    exact hK _ _ ((KeepsOthers.alloc _ _).from _) ⟨rv, sv, hP.later (by omega) (by omega) (by omega) (by omega) (one_new _ _)⟩ ⟨V.heap.size, by omega, by go_simp, by go_simp, rfl⟩
  case body =>
    rintro l2 k ⟨a, s⟩ a' V hVs hz ⟨rv, sv, hP⟩ ⟨Bx, hBx, c0, c1, rfl⟩
    obtain ⟨ha, hs, hs1, has⟩ := steps_at n i k a s hz
    have has := has hi
    have ha2 : a < 65536 := by omega
    have HC := Lib.hid (alone_any a s V ha2)
    simp only at c0 c1
    obtain ⟨h32, hRl⟩ := ps_row n i k (r0, []) a s hz hx0.out.1 hx0.out.2
    have hPl := ps_len (stepsL i n) (r0, []) k
    have hnx := ps_next hz (r0, [])
    have hkn := (List.getElem?_eq_some_iff.1 hz).1
    have hln0 := steps_len n i
    obtain ⟨⟨R, P⟩, hE⟩ : ∃ y, psL (stepsL i n) k (r0, []) = y := ⟨_, rfl⟩
    rw [hE] at h32 hRl hPl hnx hP
    simp only at h32 hRl hPl hP
    have HR32 := Lib.hid h32
    have hRle : R.length ≤ 100000 := by omega
    have hRpos : 0 < R.length := by omega
    have hnpos : 0 < (nextL R).length := by rw [nextL_len]; omega
    have hln : P.length ≤ 1000000 := by simp only [List.length_nil, Nat.zero_add] at hPl; omega
    have hVW := hP.size
    clear hE h32 hPl hkn hln0 hz
    have hHP := Lib.hid hP
    rcases hP.s3 with ⟨_, h0, _⟩ | ⟨g, cs, rfl, hOB⟩
    · omega
    have hs4 := hP.s4 g rfl
    have hBxG := hP.ne c0
    have hBx2 := World.block_lt_of_cell? V _ c0
    rw [hRl] at hP hHP
    clear hOB
    cases hal : aloneB a s
    · rw [hal] at HC
      have hnx : psL (stepsL i n) (k + 1) (r0, []) = (nextL R, P ++ [R.getD (oth a) []]) := by rw [hnx]; unfold pst; rw [if_neg (by rw [hal]; simp)]
      have hoth : oth a < s := by unfold aloneB at hal; simpa using hal
      obtain ⟨q, hq⟩ : ∃ q, R[oth a]? = some q := ⟨_, List.getElem?_eq_getElem (by omega)⟩
      have hql := HR32.out q (List.mem_of_getElem? hq)
      have hnx : psL (stepsL i n) (k + 1) (r0, []) = (nextL R, P ++ [q]) := by rw [hnx, List.getD_eq_getElem?_getD, hq]; rfl
      have hra := LD.at HR32.out (own_ld hHP.out.s3) (oth a) q hq
      rw [Nat.zero_add] at hra
      have HOT := Lib.hid fun (U : World) => other_any a s U ha2
      clear hal hP hq
      gi_wp2_with (refine ⟨trivial, ?_⟩; gi_at_call 41; refine (CallsIn.inRound l2 (callsIn_wide.2 HC.out)).mono ?_; rintro e V2 ⟨rfl, hb2⟩)
      have hz2 := hb2.size
      have hP2 := Lib.hid (hHP.out.later (by omega) (by omega) (by omega) (by omega) hb2)
      have c0 := (hb2.cell (p := ⟨Bx, 0, none⟩) hBx2).trans c0
      have c1 := (hb2.cell (p := ⟨Bx, 1, none⟩) hBx2).trans c1
      have hra : V2.rangeAt g (oth a * 32) (q.map byt) := fun j u hj => (hb2.cell (p := ⟨g, oth a * 32 + j, none⟩) (World.block_lt_of_cell? V _ (hra j u hj))).trans (hra j u hj)
      have hr := hP2.out.r
      have hg2 := hP2.out.s3.lt (k := g) rfl
      obtain ⟨hs41, hs42, hs43, _⟩ := hs4
      have hG : ∀ b', b' < W1.heap.size → ¬ OB rv b' := fun b' hb e => by have := hr.2.2.2.1 b' e; omega
      have hSB : Hid (∀ U, Kp (OB rv) V2 U → U.cell? ⟨gr, 0, none⟩ = some (.slice (some ⟨g, 0, none⟩) s cs) ∧ (U.cell? ⟨Bx, 0, none⟩ = some (.int .i64 (a : Int)) ∧ U.cell? ⟨Bx, 1, none⟩ = some (.int .i64 (s : Int))) ∧ U.rangeAt g (oth a * 32) (q.map byt)) := Lib.hid fun U hk =>
        ⟨(hk.cell (by omega) (hG _ (by omega))).trans hP2.out.s1, ⟨(hk.cell (by omega) hBxG).trans c0, (hk.cell (by omega) hBxG).trans c1⟩, range_kp hra hk hs43⟩
      have hRB : Hid (∀ U, Kp (OB rv) V2 U → U.cell? ⟨w.heap.size + 1, 0, none⟩ = some rv ∧ U.frozen? ⟨w.heap.size + 1, 0, none⟩ = false) := Lib.hid fun U hk => ⟨(hk.cell (by omega) (hG _ (by omega))).trans hr.1, (hk.frozen (by omega) (hG _ (by omega))).trans hr.2.1⟩
      have hRO : Hid (∀ U, Kp (fun _ => False) V2 U → OwnN 32 U rv P.length (fl P)) := Lib.hid fun U hk => own_keep hr.2.2.1 hk.bel
      have hST : Hid (∀ U, Kp (OB rv) V2 U → ∀ rv2, (U.setCell ⟨w.heap.size + 1, 0, none⟩ rv2).cell? ⟨gr, 0, none⟩ = some (.slice (some ⟨g, 0, none⟩) s cs) ∧ ((U.setCell ⟨w.heap.size + 1, 0, none⟩ rv2).cell? ⟨Bx, 0, none⟩ = some (.int .i64 (a : Int)) ∧ (U.setCell ⟨w.heap.size + 1, 0, none⟩ rv2).cell? ⟨Bx, 1, none⟩ = some (.int .i64 (s : Int))) ∧ (U.setCell ⟨w.heap.size + 1, 0, none⟩ rv2).rangeAt g (oth a * 32) (q.map byt)) := Lib.hid fun U hk rv2 => by
        obtain ⟨h1, ⟨h2, h3⟩, h4⟩ := hSB.out U hk
        have oc : ∀ b o, b ≠ w.heap.size + 1 → (U.setCell ⟨w.heap.size + 1, 0, none⟩ rv2).cell? ⟨b, o, none⟩ = U.cell? ⟨b, o, none⟩ := fun b o hb => World.cell?_of_block (w := U) (a := ⟨b, o, none⟩) (Below.heap_setCell _ _ _ _ (by simpa using hb))
        exact ⟨(oc _ _ (by omega)).trans h1, ⟨(oc _ _ (by omega)).trans h2, (oc _ _ (by omega)).trans h3⟩, fun j u hj => (oc _ _ hs41).trans (h4 j u hj)⟩
      have B0 : Hid (Kp (fun _ => False) V2 V2.drew) := Lib.hid (Kp.refl V2).drew
      have S0 := Lib.hid (hSB.out _ B0.out.up)
      clear hG hr hra c0 c1
      refine wpIn_only ?_
      refine region_round (S := fun U => U.cell? ⟨gr, 0, none⟩ = some (.slice (some ⟨g, 0, none⟩) s cs) ∧ (U.cell? ⟨Bx, 0, none⟩ = some (.int .i64 (a : Int)) ∧ U.cell? ⟨Bx, 1, none⟩ = some (.int .i64 (s : Int))) ∧ U.rangeAt g (oth a * 32) (q.map byt)) (by kernel_rfl) (by kernel_rfl) (fun ⟨_, _, h⟩ => h) S0.out (fun hHeld => ?_)
      refine take_at (i := 1) (k := 21) (v := .slice (some ⟨g, 0, none⟩) s cs) rfl rfl (by kernel_rfl) (by kernel_rfl) (by kernel_rfl) (fun _ _ _ h => h) (Or.inl ⟨by rfl, fun w' h => by have a0 := h.1; go_simp⟩) hHeld ?_
      try simp only [Act.put, List.setIfInBounds_toArray, List.set_cons_zero, List.set_cons_succ]
      refine take_at (i := 2) (k := 22) (v := stv a s) rfl rfl (by kernel_rfl) (by kernel_rfl) (by kernel_rfl) (fun _ _ _ h => h) (Or.inl ⟨by rfl, fun w' h => by have a0 := h.2.1.1; have a1 := h.2.1.2; go_simp⟩) hHeld ?_
      try simp only [Act.put, List.setIfInBounds_toArray, List.set_cons_zero, List.set_cons_succ]
      clear hHeld
      refine wpAnyH_ready (rs := [0, 3]) (by kernel_rfl) (by simp) ?_
      refine AllReadyH.cons rfl (fun K hK => ?_) (AllReadyH.cons rfl (fun K hK => ?_) AllReadyH.nil)
      · rw [if_pos (by rfl)]
        have q1 := (hRB.out _ B0.out.up).1
        go_simp
        clear q1
        refine hK.out _ _ S0.out (fun hHeld => ?_)
        try simp only [Act.put, List.setIfInBounds_toArray, List.set_cons_zero, List.set_cons_succ]
        clear hK K
        clear hHeld
        refine wpAnyH_ready (rs := [3]) (by kernel_rfl) (by simp) ?_
        refine AllReadyH.cons rfl (fun K hK => ?_) AllReadyH.nil
        rw [if_pos (by rfl)]
        go_simp
        go_at_call 42
        refine (HOT.out _).mono ?_
        rintro e U2 ⟨rfl, hba2⟩
        have B2 := Lib.hid (B0.out.next hba2)
        have S2 := Lib.hid (hSB.out _ B2.out.up)
        refine hK.out _ _ S2.out (fun hHeld => ?_)
        try simp only [Act.put, List.setIfInBounds_toArray, List.set_cons_zero, List.set_cons_succ]
        clear hK K
        refine take_at (i := 4) (k := 24) (v := .pointer (some ⟨g, oth a * 32, none⟩)) rfl rfl (by kernel_rfl) (by kernel_rfl) (by kernel_rfl) (fun _ _ _ h => h) (Or.inl ⟨by rfl, fun w _ => by go_simp⟩) hHeld ?_
        try simp only [Act.put, List.setIfInBounds_toArray, List.set_cons_zero, List.set_cons_succ]
        refine take_at (i := 5) (k := 25) (v := dgv q) rfl rfl (by kernel_rfl) (by kernel_rfl) (by kernel_rfl) (fun _ _ _ h => h) (yieldsIf_load_mid (by rfl) 30 (.tmp 24) rfl g (oth a * 32) rfl (q.map byt) _ (fun w' h => h.2.2) Tryd.underlying30 rfl (el_size hql)) hHeld ?_
        try simp only [Act.put, List.setIfInBounds_toArray, List.set_cons_zero, List.set_cons_succ]
        clear hHeld
        refine wpAnyH_ready (rs := [6]) (by kernel_rfl) (by simp) ?_
        refine AllReadyH.cons rfl (fun K hK => ?_) AllReadyH.nil
        rw [if_pos (by rfl)]
        refine bs1_op 25 rfl q rfl hql ?_
        rintro U3 hv3 hba3
        have B3 := Lib.hid (B2.out.next hba3)
        have S3 := Lib.hid (hSB.out _ B3.out.up)
        refine hK.out _ _ S3.out (fun hHeld => ?_)
        try simp only [Act.put, List.setIfInBounds_toArray, List.set_cons_zero, List.set_cons_succ]
        clear hK K
        clear hHeld
        refine wpAnyH_ready (rs := [7]) (by kernel_rfl) (by simp) ?_
        refine AllReadyH.cons rfl (fun K hK => ?_) AllReadyH.nil
        rw [if_pos (by rfl)]
        refine add_op 20 26 rfl rv _ rfl rfl P q (hRO.out _ B3.out) hv3.out hln ?_
        rintro rv2 U4 ho4 hg4 hn4
        obtain ⟨pz, mz, cz, rfl⟩ := own_form3 ho4.out
        have B4 := Lib.hid ((B3.out.up (G := OB rv)).grown hg4 (fun j e => e))
        have S4 := Lib.hid (hSB.out _ B4.out)
        have N4 := Lib.hid (new_of hn4 B3.out.size)
        refine hK.out _ _ S4.out (fun hHeld => ?_)
        try simp only [Act.put, List.setIfInBounds_toArray, List.set_cons_zero, List.set_cons_succ]
        clear hK K
        clear hHeld
        refine wpAnyH_ready (rs := [8]) (by kernel_rfl) (by simp) ?_
        refine AllReadyH.cons rfl (fun K hK => ?_) AllReadyH.nil
        rw [if_pos (by rfl)]
        have q5 := (hRB.out _ B4.out).1
        have p5 := (hRB.out _ B4.out).2
        go_simp
        clear q5 p5
        have S5 := Lib.hid (hST.out _ B4.out (.slice pz mz cz))
        refine hK.out _ _ S5.out (fun hHeld => ?_)
        try simp only [Act.put, List.setIfInBounds_toArray, List.set_cons_zero, List.set_cons_succ]
        clear hK K
        clear hHeld
        refine wpAnyH_done (by kernel_rfl) ?_ _
        obtain ⟨hkp, hPW⟩ := hP2.out.path (P2 := P ++ [q]) (by omega) (by omega) (by omega) (by omega) (by omega) (by omega) B4.out ho4.out N4.out (by simp)
        have q1 := hPW.h
        have q2 := hPW.s1
        have q3 := hPW.s2
        have q5 := hPW.size
        have HPW := Lib.hid hPW
        gi_wp2_with (refine ⟨trivial, ?_⟩; gi_at_call 43; refine (CallsIn.inRound l2 (callsIn_wide.2 (next_any _ R _ (own_ld HPW.out.s3) HR32.out hRle hRpos (HK.out.below HPW.out.below)))).mono ?_; rintro e W4 ⟨sv2, rfl, hR4⟩; obtain ⟨pz4, mz4, cz4, rfl⟩ := own_form3 hR4.out.own; have q2 := (hR4.out.below.cell (p := ⟨gr, 0, none⟩) (by simp only; omega)).trans q2; have q3 := (hR4.out.below.frozen (p := ⟨gr, 0, none⟩) (by simp only; omega)).trans q3)
        obtain ⟨hkr, hPW4⟩ := HPW.out.row (by omega) (by omega) (by omega) (by omega) (by omega) (by omega) hR4.out hnpos
        exact ⟨(keeps_below hb2).trans (hkp.trans hkr), _, _, by rw [hnx]; exact hPW4⟩
      · rw [if_pos (by rfl)]
        go_simp
        go_at_call 42
        refine (HOT.out _).mono ?_
        rintro e U1 ⟨rfl, hba1⟩
        have B1 := Lib.hid (B0.out.next hba1)
        have S1 := Lib.hid (hSB.out _ B1.out.up)
        refine hK.out _ _ S1.out (fun hHeld => ?_)
        try simp only [Act.put, List.setIfInBounds_toArray, List.set_cons_zero, List.set_cons_succ]
        clear hK K
        refine take_at (i := 4) (k := 24) (v := .pointer (some ⟨g, oth a * 32, none⟩)) rfl rfl (by kernel_rfl) (by kernel_rfl) (by kernel_rfl) (fun _ _ _ h => h) (Or.inl ⟨by rfl, fun w _ => by go_simp⟩) hHeld ?_
        try simp only [Act.put, List.setIfInBounds_toArray, List.set_cons_zero, List.set_cons_succ]
        refine take_at (i := 5) (k := 25) (v := dgv q) rfl rfl (by kernel_rfl) (by kernel_rfl) (by kernel_rfl) (fun _ _ _ h => h) (yieldsIf_load_mid (by rfl) 30 (.tmp 24) rfl g (oth a * 32) rfl (q.map byt) _ (fun w' h => h.2.2) Tryd.underlying30 rfl (el_size hql)) hHeld ?_
        try simp only [Act.put, List.setIfInBounds_toArray, List.set_cons_zero, List.set_cons_succ]
        clear hHeld
        refine wpAnyH_ready (rs := [0, 6]) (by kernel_rfl) (by simp) ?_
        refine AllReadyH.cons rfl (fun K hK => ?_) (AllReadyH.cons rfl (fun K hK => ?_) AllReadyH.nil)
        · rw [if_pos (by rfl)]
          have q2 := (hRB.out _ B1.out.up).1
          go_simp
          clear q2
          refine hK.out _ _ S1.out (fun hHeld => ?_)
          try simp only [Act.put, List.setIfInBounds_toArray, List.set_cons_zero, List.set_cons_succ]
          clear hK K
          clear hHeld
          refine wpAnyH_ready (rs := [6]) (by kernel_rfl) (by simp) ?_
          refine AllReadyH.cons rfl (fun K hK => ?_) AllReadyH.nil
          rw [if_pos (by rfl)]
          refine bs1_op 25 rfl q rfl hql ?_
          rintro U3 hv3 hba3
          have B3 := Lib.hid (B1.out.next hba3)
          have S3 := Lib.hid (hSB.out _ B3.out.up)
          refine hK.out _ _ S3.out (fun hHeld => ?_)
          try simp only [Act.put, List.setIfInBounds_toArray, List.set_cons_zero, List.set_cons_succ]
          clear hK K
          clear hHeld
          refine wpAnyH_ready (rs := [7]) (by kernel_rfl) (by simp) ?_
          refine AllReadyH.cons rfl (fun K hK => ?_) AllReadyH.nil
          rw [if_pos (by rfl)]
          refine add_op 20 26 rfl rv _ rfl rfl P q (hRO.out _ B3.out) hv3.out hln ?_
          rintro rv2 U4 ho4 hg4 hn4
          obtain ⟨pz, mz, cz, rfl⟩ := own_form3 ho4.out
          have B4 := Lib.hid ((B3.out.up (G := OB rv)).grown hg4 (fun j e => e))
          have S4 := Lib.hid (hSB.out _ B4.out)
          have N4 := Lib.hid (new_of hn4 B3.out.size)
          refine hK.out _ _ S4.out (fun hHeld => ?_)
          try simp only [Act.put, List.setIfInBounds_toArray, List.set_cons_zero, List.set_cons_succ]
          clear hK K
          clear hHeld
          refine wpAnyH_ready (rs := [8]) (by kernel_rfl) (by simp) ?_
          refine AllReadyH.cons rfl (fun K hK => ?_) AllReadyH.nil
          rw [if_pos (by rfl)]
          have q5 := (hRB.out _ B4.out).1
          have p5 := (hRB.out _ B4.out).2
          go_simp
          clear q5 p5
          have S5 := Lib.hid (hST.out _ B4.out (.slice pz mz cz))
          refine hK.out _ _ S5.out (fun hHeld => ?_)
          try simp only [Act.put, List.setIfInBounds_toArray, List.set_cons_zero, List.set_cons_succ]
          clear hK K
          clear hHeld
          refine wpAnyH_done (by kernel_rfl) ?_ _
          obtain ⟨hkp, hPW⟩ := hP2.out.path (P2 := P ++ [q]) (by omega) (by omega) (by omega) (by omega) (by omega) (by omega) B4.out ho4.out N4.out (by simp)
          have q1 := hPW.h
          have q2 := hPW.s1
          have q3 := hPW.s2
          have q5 := hPW.size
          have HPW := Lib.hid hPW
          gi_wp2_with (refine ⟨trivial, ?_⟩; gi_at_call 43; refine (CallsIn.inRound l2 (callsIn_wide.2 (next_any _ R _ (own_ld HPW.out.s3) HR32.out hRle hRpos (HK.out.below HPW.out.below)))).mono ?_; rintro e W4 ⟨sv2, rfl, hR4⟩; obtain ⟨pz4, mz4, cz4, rfl⟩ := own_form3 hR4.out.own; have q2 := (hR4.out.below.cell (p := ⟨gr, 0, none⟩) (by simp only; omega)).trans q2; have q3 := (hR4.out.below.frozen (p := ⟨gr, 0, none⟩) (by simp only; omega)).trans q3)
          obtain ⟨hkr, hPW4⟩ := HPW.out.row (by omega) (by omega) (by omega) (by omega) (by omega) (by omega) hR4.out hnpos
          exact ⟨(keeps_below hb2).trans (hkp.trans hkr), _, _, by rw [hnx]; exact hPW4⟩
        · rw [if_pos (by rfl)]
          refine bs1_op 25 rfl q rfl hql ?_
          rintro U2 hv2 hba2
          have B2 := Lib.hid (B1.out.next hba2)
          have S2 := Lib.hid (hSB.out _ B2.out.up)
          refine hK.out _ _ S2.out (fun hHeld => ?_)
          try simp only [Act.put, List.setIfInBounds_toArray, List.set_cons_zero, List.set_cons_succ]
          clear hK K
          clear hHeld
          refine wpAnyH_ready (rs := [0]) (by kernel_rfl) (by simp) ?_
          refine AllReadyH.cons rfl (fun K hK => ?_) AllReadyH.nil
          rw [if_pos (by rfl)]
          have q3 := (hRB.out _ B2.out.up).1
          go_simp
          clear q3
          refine hK.out _ _ S2.out (fun hHeld => ?_)
          try simp only [Act.put, List.setIfInBounds_toArray, List.set_cons_zero, List.set_cons_succ]
          clear hK K
          clear hHeld
          refine wpAnyH_ready (rs := [7]) (by kernel_rfl) (by simp) ?_
          refine AllReadyH.cons rfl (fun K hK => ?_) AllReadyH.nil
          rw [if_pos (by rfl)]
          refine add_op 20 26 rfl rv _ rfl rfl P q (hRO.out _ B2.out) hv2.out hln ?_
          rintro rv2 U4 ho4 hg4 hn4
          obtain ⟨pz, mz, cz, rfl⟩ := own_form3 ho4.out
          have B4 := Lib.hid ((B2.out.up (G := OB rv)).grown hg4 (fun j e => e))
          have S4 := Lib.hid (hSB.out _ B4.out)
          have N4 := Lib.hid (new_of hn4 B2.out.size)
          refine hK.out _ _ S4.out (fun hHeld => ?_)
          try simp only [Act.put, List.setIfInBounds_toArray, List.set_cons_zero, List.set_cons_succ]
          clear hK K
          clear hHeld
          refine wpAnyH_ready (rs := [8]) (by kernel_rfl) (by simp) ?_
          refine AllReadyH.cons rfl (fun K hK => ?_) AllReadyH.nil
          rw [if_pos (by rfl)]
          have q5 := (hRB.out _ B4.out).1
          have p5 := (hRB.out _ B4.out).2
          go_simp
          clear q5 p5
          have S5 := Lib.hid (hST.out _ B4.out (.slice pz mz cz))
          refine hK.out _ _ S5.out (fun hHeld => ?_)
          try simp only [Act.put, List.setIfInBounds_toArray, List.set_cons_zero, List.set_cons_succ]
          clear hK K
          clear hHeld
          refine wpAnyH_done (by kernel_rfl) ?_ _
          obtain ⟨hkp, hPW⟩ := hP2.out.path (P2 := P ++ [q]) (by omega) (by omega) (by omega) (by omega) (by omega) (by omega) B4.out ho4.out N4.out (by simp)
          have q1 := hPW.h
          have q2 := hPW.s1
          have q3 := hPW.s2
          have q5 := hPW.size
          have HPW := Lib.hid hPW
          gi_wp2_with (refine ⟨trivial, ?_⟩; gi_at_call 43; refine (CallsIn.inRound l2 (callsIn_wide.2 (next_any _ R _ (own_ld HPW.out.s3) HR32.out hRle hRpos (HK.out.below HPW.out.below)))).mono ?_; rintro e W4 ⟨sv2, rfl, hR4⟩; obtain ⟨pz4, mz4, cz4, rfl⟩ := own_form3 hR4.out.own; have q2 := (hR4.out.below.cell (p := ⟨gr, 0, none⟩) (by simp only; omega)).trans q2; have q3 := (hR4.out.below.frozen (p := ⟨gr, 0, none⟩) (by simp only; omega)).trans q3)
          obtain ⟨hkr, hPW4⟩ := HPW.out.row (by omega) (by omega) (by omega) (by omega) (by omega) (by omega) hR4.out hnpos
          exact ⟨(keeps_below hb2).trans (hkp.trans hkr), _, _, by rw [hnx]; exact hPW4⟩
    · rw [hal] at HC
      have hnx : psL (stepsL i n) (k + 1) (r0, []) = (nextL R, P) := by rw [hnx]; unfold pst; rw [if_pos hal]
      clear hal hP
      gi_wp2_with (first
        | (refine ⟨trivial, ?_⟩; gi_at_call 41; refine (CallsIn.inRound l2 (callsIn_wide.2 HC.out)).mono ?_; rintro e V2 ⟨rfl, hb2⟩; have HPW := Lib.hid (hHP.out.later (by omega) (by omega) (by omega) (by omega) hb2); have q1 := HPW.out.h; have q2 := HPW.out.s1; have q3 := HPW.out.s2; have q5 := HPW.out.size)
        | (refine ⟨trivial, ?_⟩; gi_at_call 43; refine (CallsIn.inRound l2 (callsIn_wide.2 (next_any _ R _ (own_ld HPW.out.s3) HR32.out hRle hRpos (HK.out.below HPW.out.below)))).mono ?_; rintro e W4 ⟨sv2, rfl, hR4⟩; obtain ⟨pz4, mz4, cz4, rfl⟩ := own_form3 hR4.out.own; have q2 := (hR4.out.below.cell (p := ⟨gr, 0, none⟩) (by simp only; omega)).trans q2; have q3 := (hR4.out.below.frozen (p := ⟨gr, 0, none⟩) (by simp only; omega)).trans q3))
      obtain ⟨hkr, hPW4⟩ := HPW.out.row (by omega) (by omega) (by omega) (by omega) (by omega) (by omega) hR4.out hnpos
      exact ⟨(keeps_below hb2).trans hkr, _, _, by rw [hnx]; exact hPW4⟩
  case done =>
    rintro D V hD ⟨rv, sv, hP⟩ hK
    rw [← hPL.out] at hP
    have hr := hP.r
    obtain ⟨pr, cr, rfl⟩ := own_form hr.2.2.1
    have k0 := hr.1
    have kf := hr.2.1
    have HR := Lib.hid hr
    have HB := Lib.hid hP.below
    have hs := hP.size
    clear hr hP
    gi_wp2
    have hK' := (KeepsOthers.setCell V ⟨w.heap.size + 1, 0, none⟩ (.slice pr PE.length cr)).same D _ hK rfl
    refine ⟨by simp, .inl ⟨_, _, rfl, run_takeDeferred hK', ?_⟩⟩
    have hc5 := cell_kept (World.cell?_setCell_same' V ⟨w.heap.size + 1, 0, none⟩ (.slice pr PE.length cr) (by rw [k0]; rfl)) (grownBy_putObj' _ D (.deferred none)) (fun r e => by cases e; exact ⟨_, hK', rfl⟩)
    have hb5 : Below w.heap.size w (V.setCell ⟨w.heap.size + 1, 0, none⟩ (.slice pr PE.length cr)) := below_set HB.out (Nat.le_succ _) _
    have hBW := hb5.trans (belowK_b (w := w) (Nat.le_refl _) _ D _ (.deferred none) (by omega) hK' rfl rfl)
    have hO : OwnN 32 ((V.setCell ⟨w.heap.size + 1, 0, none⟩ (.slice pr PE.length cr)).putObj D (.deferred none)) (.slice pr PE.length cr) PE.length (fl PE) := HR.out.2.2.1.keep (by simp) fun j hj => by
      have h1 := HR.out.2.2.2.1 j hj
      obtain ⟨cs, t, fr, hcs⟩ := HR.out.2.2.2.2 j hj
      rw [World.putObj_heap_other (fun e => by subst e; rw [hcs] at hK; cases hK)]
      exact Below.heap_setCell _ _ _ _ (by simp only; omega)
    refine ⟨.slice pr PE.length cr, ?_, _, rfl, Lib.hid ⟨hO, fun j hj => by have := HR.out.2.2.2.1 j hj; omega, hBW⟩⟩
    simp [results, Tryd.f24, go_sem, hc5]
  case stop =>
    rintro D c V hD hx hK
    exact hx.elim
end Go.Proofs.YteeabenmfmeooaaDoor
