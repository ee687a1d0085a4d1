/-
  Merkle: climb.
-/
import Derived.Test.YteeabenmfmeooaaDoorCp
import Derived.Test.YteeabenmfmeooaaDoorRb
import Derived.Test.YteeabenmfmeooaaDoorKp
import Derived.Deep.CutRange
import Derived.Deep.RegionHeld3
import Derived.Sort.CutIn
namespace Go.Proofs.YteeabenmfmeooaaDoor
open Go Go.RowKit Go.Shelf
attribute [local go_sem] Oper.semAt_some
def DgR (l : List UInt8) (w : World) (e : Ending) (w' : World) : Prop := e = .returned (dgv l) ∧ Below w.heap.size w w'
abbrev hv : Value := .func (.func 21) #[] #[]
theorem own_row {B g : Nat} {W V : World} {row : Option Nat} {cs : Array Value} {t : TypeId} {fr : Nat × Nat} (h : W.heap[g]? = some (.cells cs t fr)) (hg : W.grownBy V row) (hr : ∀ r, row = some r → B ≤ r ∧ ∃ o : Obj, W.heap[r]? = some o ∧ o.isCells = false) : V.heap[g]? = some (.cells cs t fr) :=
  (hg.block g (Array.getElem?_eq_some_iff.1 h).1 (fun e => by
    obtain ⟨_, o, ho, hc⟩ := hr g e.symm
    rw [h] at ho
    cases ho
    cases hc)).trans h
theorem wpIn_only {F : Fence} {n : Nat} {P : Program} {c : Code} {K : Act → World → Prop} {Q' : Exit → Act → World → Prop} {a : Act} {w : World} (h : c.wpIn F n P (Exit.then K (fun _ _ _ => False)) a w) : c.wpIn F n P (Exit.then K Q') a w :=
  wpIn_mono h (fun e a w h => by cases e <;> first | exact h | exact False.elim h)
theorem cm_world (w : World) (u : Value) (o : Obj) (ho : o = .cells ((List.replicate 32 (0 : UInt8)).map byt).toArray 30) : ∃ W0, (((w.alloc (.cells #[hv] 45)).alloc (.cells #[u] 25)).alloc o) = W0 ∧ W0.heap.size = w.heap.size + 3 ∧ Below w.heap.size w W0 ∧
    W0.cell? ⟨w.heap.size, 0, none⟩ = some hv ∧ W0.cell? ⟨w.heap.size + 1, 0, none⟩ = some u ∧ W0.frozen? ⟨w.heap.size + 1, 0, none⟩ = false ∧ Dg W0 (w.heap.size + 1 + 1) zeros := by
  subst ho
  refine ⟨_, rfl, by simp, (((Below.refl _ w).alloc (Nat.le_refl _) _).alloc (by simp) _).alloc (by simp; omega) _, by go_simp, by go_simp, by go_simp, ?_⟩
  have h := zeros32 ((w.alloc (.cells #[hv] 45)).alloc (.cells #[u] 25))
  rw [World.size_alloc, World.size_alloc] at h
  exact h
theorem cm_world1 (w : World) (n i : Nat) : ∃ W1, ((w.alloc (.cells #[.int .i64 (n : Int)] 3)).alloc (.cells #[.int .i64 (i : Int)] 3)) = W1 ∧ W1.heap.size = w.heap.size + 2 ∧ Below w.heap.size w W1 ∧ Bxs (w.heap.size + 1) w.heap.size i n W1 := by
  refine ⟨_, rfl, by simp, ((Below.refl _ w).alloc (Nat.le_refl _) _).alloc (by simp) _, by go_simp, by go_simp⟩
theorem stepT_len (a : Nat) {d o : List UInt8} (hd : d.length = 32) (ho : o.length = 32) : (stepT a d o).length = 96 := by
  unfold stepT
  split
  · exact nodeT_len ho hd
  · exact nodeT_len hd ho
/-- between two rounds of climb -/
structure CI (w W1 : World) (g11 Bi Bn i n : Nat) (x : CS) (k : Nat) (V : World) : Prop where
  h : V.cell? ⟨w.heap.size, 0, none⟩ = some hv
  p : ∃ pv, V.cell? ⟨w.heap.size + 1, 0, none⟩ = some pv ∧ V.frozen? ⟨w.heap.size + 1, 0, none⟩ = false ∧ LD w pv (csL (stepsL i n) k x).2
  r : Dg V (w.heap.size + 1 + 1) zeros
  d : Dg V g11 (csL (stepsL i n) k x).1
  b : Bxs Bi Bn i n V
  below : Below w.heap.size w V
  size : W1.heap.size ≤ V.heap.size
theorem CI.own {w W1 : World} (g11 Bi Bn i n : Nat) (x : CS) (hw : w.heap.size ≤ W1.heap.size) : OwnFrom W1.heap.size (CI w W1 g11 Bi Bn i n x) := fun k A V row hs hg hr => by
  obtain ⟨pv, p1, p2, p3⟩ := hs.p
  exact ⟨own_cell hs.h hg hr, ⟨pv, own_cell p1 hg hr, own_free p1 p2 hg hr, p3⟩, own_row hs.r hg hr, own_row hs.d hg hr, ⟨own_cell hs.b.1 hg hr, own_cell hs.b.2 hg hr⟩, ownFrom_below (Nat.le_refl _) hw () A V row hs.below hg hr, Nat.le_trans hs.size hg.size⟩
theorem CI.later {w W1 : World} {g11 Bi Bn i n : Nat} {x : CS} {k : Nat} {V V2 : World} (h : CI w W1 g11 Bi Bn i n x k V) (h3 : w.heap.size + 3 ≤ W1.heap.size) (hi : Bi < W1.heap.size) (hn : Bn < W1.heap.size) (hb : Below V.heap.size V V2) : CI w W1 g11 Bi Bn i n x k V2 := by
  have hs := h.size
  obtain ⟨pv, p1, p2, p3⟩ := h.p
  exact ⟨(hb.cell (p := ⟨w.heap.size, 0, none⟩) (by simp only; omega)).trans h.h, ⟨pv, (hb.cell (p := ⟨w.heap.size + 1, 0, none⟩) (by simp only; omega)).trans p1, (hb.frozen (p := ⟨w.heap.size + 1, 0, none⟩) (by simp only; omega)).trans p2, p3⟩, h.r.below hb, h.d.below hb,
    ⟨(hb.cell (p := ⟨Bi, 0, none⟩) (by simp only; omega)).trans h.b.1, (hb.cell (p := ⟨Bn, 0, none⟩) (by simp only; omega)).trans h.b.2⟩, h.below.trans (hb.mono h.below.size), Nat.le_trans hs hb.size⟩
theorem CI.same {w W1 : World} {g11 Bi Bn i n : Nat} {x : CS} {k : Nat} {V : World} (h : CI w W1 g11 Bi Bn i n x k V) (he : csL (stepsL i n) (k + 1) x = csL (stepsL i n) k x) : CI w W1 g11 Bi Bn i n x (k + 1) V :=
  ⟨h.h, by rw [he]; exact h.p, h.r, by rw [he]; exact h.d, h.b, h.below, h.size⟩
theorem CI.step {w W1 : World} {g11 Bi Bn i n : Nat} {x : CS} {k : Nat} {V U : World} {d' : List UInt8} {r : List (List UInt8)} {nv : Value} (h : CI w W1 g11 Bi Bn i n x k V) (hk : Kp (· = g11) V U) (hd : Dg U g11 d') (hg : w.heap.size + 3 ≤ g11) (_hgW : g11 < W1.heap.size) (hBi : g11 < Bi) (hBn : g11 < Bn) (hi : Bi < W1.heap.size) (hn : Bn < W1.heap.size)
    (he : csL (stepsL i n) (k + 1) x = (d', r)) (hL : LD w nv r) : CI w W1 g11 Bi Bn i n x (k + 1) (U.setCell ⟨w.heap.size + 1, 0, none⟩ nv) := by
  have hs := h.size
  have hks := hk.size
  obtain ⟨pv, p1, p2, p3⟩ := h.p
  have q1 := (hk.cell (b := w.heap.size + 1) (o := 0) (by omega) (by omega)).trans p1
  have q2 := (hk.frozen (b := w.heap.size + 1) (o := 0) (by omega) (by omega)).trans p2
  have oc : ∀ b v, b ≠ w.heap.size + 1 → U.cell? ⟨b, 0, none⟩ = some v → (U.setCell ⟨w.heap.size + 1, 0, none⟩ nv).cell? ⟨b, 0, none⟩ = some v := fun b v hb hc => (World.cell?_of_block (w := U) (a := ⟨b, 0, none⟩) (Below.heap_setCell _ _ _ _ (by simp only; omega))).trans hc
  refine ⟨oc _ _ (by omega) ((hk.cell (by omega) (by omega)).trans h.h), ⟨nv, World.cell?_setCell_same' _ _ _ (by rw [q1]; rfl), by rw [World.frozen?_setCell]; exact q2, by rw [he]; exact hL⟩,
    (Below.heap_setCell _ _ _ _ (by simp only; omega)).trans (h.r.kp hk (by omega)), by rw [he]; exact (Below.heap_setCell _ _ _ _ (by simp only; omega)).trans hd,
    ⟨oc _ _ (by omega) ((hk.cell (by omega) (by omega)).trans h.b.1), oc _ _ (by omega) ((hk.cell (by omega) (by omega)).trans h.b.2)⟩, below_set (Kp.below h.below h.below.size hk (fun k hk e => by omega)) (Nat.le_succ _) _, by rw [World.size_setCell]; omega⟩
theorem keeps_kp {B g : Nat} {V V2 : World} (hb : Kp (· = g) V V2) (hg : g < B) : KeepsFrom B V V2 := ⟨hb.size, fun k _ hB hk _ => (hb.block k (Array.getElem?_eq_some_iff.1 hk).1 (by omega)).trans hk⟩
set_option maxRecDepth 100000 in
set_option maxHeartbeats 4000000 in
theorem climb_any (n i : Nat) (v u : Value) (leaf : List UInt8) (path : List (List UInt8)) (w : World) (hn : n ≤ 65536) (hi : i < n) (hv' : BV w v leaf) (hl : leaf.length ≤ 1000000) (hu : LD w u path) (h32 : D32 path) (hp : path.length = plen i n) (hk : KOK w) :
    Calls Tryd.prog 30 #[hv, .int .i64 (n : Int), .int .i64 (i : Int), v, u] w (DgR (climbB i n leaf path) w) := by
  have HV := Lib.hid hv'
  have HU := Lib.hid hu
  have HK := Lib.hid hk
  have H32 := Lib.hid h32
  obtain ⟨b1, c1, p1, rfl, _⟩ := hv'
  obtain ⟨b2, c2, p2, rfl, _, _, _, _⟩ := hu
  have HPL := Lib.hid hp
  clear hk h32 hp
  refine (callsIn_wide (n := 3)).1 ?_
  refine callsIn_of_wp_marks Tryd.func30 rfl trivial ?_ rfl
  simp only [Tryd.ntmps30, List.size_toArray, List.length_cons, List.length_nil, Nat.reduceAdd, Nat.reduceSub, Array.replicate_succ, Array.replicate_zero, List.push_toArray, List.append_toArray, List.nil_append, List.cons_append]
  gi_wp2
  obtain ⟨W0, hW0, hsz, hB0, k0, k1, kf1, kd⟩ := cm_world w (.slice p2 path.length c2) (.cells #[.int .u8 0, .int .u8 0, .int .u8 0, .int .u8 0, .int .u8 0, .int .u8 0, .int .u8 0, .int .u8 0, .int .u8 0, .int .u8 0, .int .u8 0, .int .u8 0, .int .u8 0, .int .u8 0, .int .u8 0, .int .u8 0, .int .u8 0, .int .u8 0, .int .u8 0, .int .u8 0, .int .u8 0, .int .u8 0, .int .u8 0, .int .u8 0, .int .u8 0, .int .u8 0, .int .u8 0, .int .u8 0, .int .u8 0, .int .u8 0, .int .u8 0, .int .u8 0] 30) rfl
  rw [hW0]
  have HB0 := Lib.hid hB0
  have HL48 : Hid (∀ U, Below W0.heap.size W0 U → Calls Tryd.prog 48 #[.slice p1 leaf.length c1] U (TxtR (leafT leaf) U)) := Lib.hid fun U hb => leafT_any _ leaf U (HV.out.below (HB0.out.trans (hb.mono HB0.out.size))) hl (HK.out.below (HB0.out.trans (hb.mono HB0.out.size)))
  have HKW : Hid (∀ U, Below W0.heap.size W0 U → KOK U) := Lib.hid fun U hb => HK.out.below (HB0.out.trans (hb.mono HB0.out.size))
  have hSB : Hid (∀ U, Below W0.heap.size W0 U → U.cell? ⟨w.heap.size, 0, none⟩ = some hv) := Lib.hid fun U hb => (hb.cell (p := ⟨w.heap.size, 0, none⟩) (by simp only; omega)).trans k0
  have B0 : Hid (Below W0.heap.size W0 W0.drew) := Lib.hid ⟨rfl, rfl, rfl, Nat.le_refl _, fun _ _ => rfl⟩
  have S0 := Lib.hid (hSB.out _ B0.out)
  refine wpIn_wide.2 ?_
  go_cut [11] from 13 to 16 (fun s11 wc => ∃ g : Nat, s11 = .pointer (some ⟨g, 0, none⟩) ∧ W0.heap.size ≤ g ∧ Hid (Dg wc g (sha (leafT leaf))) ∧ Hid (Below W0.heap.size W0 wc))
  case first =>
    refine Code.wp_mono (Q := Exit.then _ (fun _ _ _ => False)) (fun e a w h => by cases e <;> first | exact h | exact False.elim h) ?_
    refine wp_region_held_drew (S := fun U => U.cell? ⟨w.heap.size, 0, none⟩ = some hv) (by kernel_rfl) S0.out (fun hHeld => ?_)
    refine take_at (i := 0) (k := 13) (v := hv) rfl rfl (by kernel_rfl) (by kernel_rfl) (by kernel_rfl) (fun _ _ _ h => h) (Or.inl ⟨by rfl, fun w' h => by have a0 := h; go_simp⟩) hHeld ?_
    try simp only [Act.put, List.setIfInBounds_toArray, List.set_cons_zero, List.set_cons_succ]
    refine take_at (i := 1) (k := 14) (v := .slice p1 leaf.length c1) rfl rfl (by kernel_rfl) (by kernel_rfl) (by kernel_rfl) (fun _ _ _ h => h) (Or.inl ⟨by rfl, fun w _ => by go_simp⟩) hHeld ?_
    try simp only [Act.put, List.setIfInBounds_toArray, List.set_cons_zero, List.set_cons_succ]
    clear hHeld
    refine wpAnyH_ready (rs := [2, 4]) (by kernel_rfl) (by simp) ?_
    refine AllReadyH.cons rfl (fun K hK => ?_) (AllReadyH.cons rfl (fun K hK => ?_) AllReadyH.nil)
    · rw [if_pos (by rfl)]
      go_simp
      go_at_call 48
      refine (HL48.out _ B0.out).mono ?_
      rintro e U1 ⟨va1, rfl, hoa1, hna1, hba1⟩
      have B1 := Lib.hid (B0.out.trans (hba1.mono B0.out.size))
      have S1 := Lib.hid (hSB.out _ B1.out)
      have T1 := Lib.hid (own_bv hoa1.out)
      refine hK.out _ _ S1.out (fun hHeld => ?_)
      try simp only [Act.put, List.setIfInBounds_toArray, List.set_cons_zero, List.set_cons_succ]
      clear hK K
      clear hHeld
      refine wpAnyH_ready (rs := [3, 4]) (by kernel_rfl) (by simp) ?_
      refine AllReadyH.cons rfl (fun K hK => ?_) (AllReadyH.cons rfl (fun K hK => ?_) AllReadyH.nil)
      · rw [if_pos (by rfl)]
        go_simp
        go_at_call 21
        refine (sum_any va1 (leafT leaf) U1 T1.out (by rw [leafT_len]; omega) (HKW.out _ B1.out)).mono ?_
        rintro e U2 ⟨rfl, hba2⟩
        have B2 := Lib.hid (B1.out.trans (hba2.mono B1.out.size))
        have T2 := Lib.hid (T1.out.below hba2)
        have S2 := Lib.hid (hSB.out _ B2.out)
        refine hK.out _ _ S2.out (fun hHeld => ?_)
        try simp only [Act.put, List.setIfInBounds_toArray, List.set_cons_zero, List.set_cons_succ]
        clear hK K
        clear hHeld
        refine wpAnyH_ready (rs := [4]) (by kernel_rfl) (by simp) ?_
        refine AllReadyH.cons rfl (fun K hK => ?_) AllReadyH.nil
        rw [if_pos (by rfl)]
        refine al_op rfl rfl ?_
        rintro U3 ga3 hba3 hga3 hz3
        have B3 := Lib.hid (B2.out.trans (hba3.mono B2.out.size))
        have T3 := Lib.hid (T2.out.below hba3)
        have S3 := Lib.hid (hSB.out _ B3.out)
        refine hK.out _ _ S3.out (fun hHeld => ?_)
        try simp only [Act.put, List.setIfInBounds_toArray, List.set_cons_zero, List.set_cons_succ]
        clear hK K
        clear hHeld
        refine wpAnyH_ready (rs := [5]) (by kernel_rfl) (by simp) ?_
        refine AllReadyH.cons rfl (fun K hK => ?_) AllReadyH.nil
        rw [if_pos (by rfl)]
        refine dg_op (.tmp 11) (.tmp 16) rfl ga3 _ _ hz3.out (by simp) (sha_len _) rfl rfl ?_
        rintro U4 hd4 hc4
        have hgg4 : W0.heap.size ≤ ga3 := Nat.le_trans B2.out.size hga3
        have B4 := Lib.hid (Chg.below B3.out B3.out.size hgg4 hc4)
        have S4 := Lib.hid (hSB.out _ B4.out)
        refine hK.out _ _ S4.out (fun hHeld => ?_)
        try simp only [Act.put, List.setIfInBounds_toArray, List.set_cons_zero, List.set_cons_succ]
        clear hK K
        clear hHeld
        refine wpAnyH_done (by kernel_rfl) ?_ _
        go_wp2_with fail
        go_meet
        case rel => exact ⟨ga3, rfl, hgg4, hd4, B4⟩
      · rw [if_pos (by rfl)]
        refine al_op rfl rfl ?_
        rintro U2 ga2 hba2 hga2 hz2
        have B2 := Lib.hid (B1.out.trans (hba2.mono B1.out.size))
        have T2 := Lib.hid (T1.out.below hba2)
        have S2 := Lib.hid (hSB.out _ B2.out)
        refine hK.out _ _ S2.out (fun hHeld => ?_)
        try simp only [Act.put, List.setIfInBounds_toArray, List.set_cons_zero, List.set_cons_succ]
        clear hK K
        clear hHeld
        refine wpAnyH_ready (rs := [3]) (by kernel_rfl) (by simp) ?_
        refine AllReadyH.cons rfl (fun K hK => ?_) AllReadyH.nil
        rw [if_pos (by rfl)]
        go_simp
        go_at_call 21
        refine (sum_any va1 (leafT leaf) U2 T2.out (by rw [leafT_len]; omega) (HKW.out _ B2.out)).mono ?_
        rintro e U3 ⟨rfl, hba3⟩
        have B3 := Lib.hid (B2.out.trans (hba3.mono B2.out.size))
        have Z3_0 := Lib.hid (hz2.out.below hba3)
        have T3 := Lib.hid (T2.out.below hba3)
        have S3 := Lib.hid (hSB.out _ B3.out)
        refine hK.out _ _ S3.out (fun hHeld => ?_)
        try simp only [Act.put, List.setIfInBounds_toArray, List.set_cons_zero, List.set_cons_succ]
        clear hK K
        clear hHeld
        refine wpAnyH_ready (rs := [5]) (by kernel_rfl) (by simp) ?_
        refine AllReadyH.cons rfl (fun K hK => ?_) AllReadyH.nil
        rw [if_pos (by rfl)]
        refine dg_op (.tmp 11) (.tmp 16) rfl ga2 _ _ Z3_0.out (by simp) (sha_len _) rfl rfl ?_
        rintro U4 hd4 hc4
        have hgg4 : W0.heap.size ≤ ga2 := Nat.le_trans B1.out.size hga2
        have B4 := Lib.hid (Chg.below B3.out B3.out.size hgg4 hc4)
        have S4 := Lib.hid (hSB.out _ B4.out)
        refine hK.out _ _ S4.out (fun hHeld => ?_)
        try simp only [Act.put, List.setIfInBounds_toArray, List.set_cons_zero, List.set_cons_succ]
        clear hK K
        clear hHeld
        refine wpAnyH_done (by kernel_rfl) ?_ _
        go_wp2_with fail
        go_meet
        case rel => exact ⟨ga2, rfl, hgg4, hd4, B4⟩
    · rw [if_pos (by rfl)]
      refine al_op rfl rfl ?_
      rintro U1 ga1 hba1 hga1 hz1
      have B1 := Lib.hid (B0.out.trans (hba1.mono B0.out.size))
      have S1 := Lib.hid (hSB.out _ B1.out)
      refine hK.out _ _ S1.out (fun hHeld => ?_)
      try simp only [Act.put, List.setIfInBounds_toArray, List.set_cons_zero, List.set_cons_succ]
      clear hK K
      clear hHeld
      refine wpAnyH_ready (rs := [2]) (by kernel_rfl) (by simp) ?_
      refine AllReadyH.cons rfl (fun K hK => ?_) AllReadyH.nil
      rw [if_pos (by rfl)]
      go_simp
      go_at_call 48
      refine (HL48.out _ B1.out).mono ?_
      rintro e U2 ⟨va2, rfl, hoa2, hna2, hba2⟩
      have B2 := Lib.hid (B1.out.trans (hba2.mono B1.out.size))
      have Z2_0 := Lib.hid (hz1.out.below hba2)
      have S2 := Lib.hid (hSB.out _ B2.out)
      have T2 := Lib.hid (own_bv hoa2.out)
      refine hK.out _ _ S2.out (fun hHeld => ?_)
      try simp only [Act.put, List.setIfInBounds_toArray, List.set_cons_zero, List.set_cons_succ]
      clear hK K
      clear hHeld
      refine wpAnyH_ready (rs := [3]) (by kernel_rfl) (by simp) ?_
      refine AllReadyH.cons rfl (fun K hK => ?_) AllReadyH.nil
      rw [if_pos (by rfl)]
      go_simp
      go_at_call 21
      refine (sum_any va2 (leafT leaf) U2 T2.out (by rw [leafT_len]; omega) (HKW.out _ B2.out)).mono ?_
      rintro e U3 ⟨rfl, hba3⟩
      have B3 := Lib.hid (B2.out.trans (hba3.mono B2.out.size))
      have Z3_0 := Lib.hid (Z2_0.out.below hba3)
      have T3 := Lib.hid (T2.out.below hba3)
      have S3 := Lib.hid (hSB.out _ B3.out)
      refine hK.out _ _ S3.out (fun hHeld => ?_)
      try simp only [Act.put, List.setIfInBounds_toArray, List.set_cons_zero, List.set_cons_succ]
      clear hK K
      clear hHeld
      refine wpAnyH_ready (rs := [5]) (by kernel_rfl) (by simp) ?_
      refine AllReadyH.cons rfl (fun K hK => ?_) AllReadyH.nil
      rw [if_pos (by rfl)]
      refine dg_op (.tmp 11) (.tmp 16) rfl ga1 _ _ Z3_0.out (by simp) (sha_len _) rfl rfl ?_
      rintro U4 hd4 hc4
      have hgg4 : W0.heap.size ≤ ga1 := Nat.le_trans B0.out.size hga1
      have B4 := Lib.hid (Chg.below B3.out B3.out.size hgg4 hc4)
      have S4 := Lib.hid (hSB.out _ B4.out)
      refine hK.out _ _ S4.out (fun hHeld => ?_)
      try simp only [Act.put, List.setIfInBounds_toArray, List.set_cons_zero, List.set_cons_succ]
      clear hK K
      clear hHeld
      refine wpAnyH_done (by kernel_rfl) ?_ _
      go_wp2_with fail
      go_meet
      case rel => exact ⟨ga1, rfl, hgg4, hd4, B4⟩
  case rest =>
    obtain ⟨g11, rfl, hg11, HD, HBc⟩ := hcut
    have hbc := HBc.out.size
    gi_wp2_with (refine ⟨trivial, ?_⟩; gi_at_call 40; refine (steps_mk _ _ _ _).mono ?_; rintro e w' ⟨rfl, rfl⟩)
    obtain ⟨W1, hW1, hsz1, hB1, hbx⟩ := cm_world1 wc n i
    rw [hW1]
    have hBw : Below W0.heap.size W0 W1 := HBc.out.trans (hB1.mono HBc.out.size)
    have hg1 : g11 < wc.heap.size := HD.out.lt
    have hP0 : CI w W1 g11 (wc.heap.size + 1) wc.heap.size i n (sha (leafT leaf), path) 0 W1 :=
      ⟨hSB.out _ hBw, ⟨_, (hBw.cell (p := ⟨w.heap.size + 1, 0, none⟩) (by simp only; omega)).trans k1, (hBw.frozen (p := ⟨w.heap.size + 1, 0, none⟩) (by simp only; omega)).trans kf1, HU.out⟩, kd.below hBw, HD.out.below hB1, hbx, HB0.out.trans (hBw.mono HB0.out.size), Nat.le_refl _⟩
    clear hW1 hbx
    refine wpIn_range (w := W1) rfl (by omega) (gf := 54) (lb := #[.pointer (some ⟨wc.heap.size + 1, 0, none⟩), .pointer (some ⟨wc.heap.size, 0, none⟩)]) rfl trivial (enters_of Tryd.func54 (by kernel_rfl) rfl) (steps_in 2 (by omega) (wc.heap.size + 1) wc.heap.size i n hn (by omega)) (fun _ => rfl)
      (CI w W1 g11 (wc.heap.size + 1) wc.heap.size i n (sha (leafT leaf), path)) (fun _ _ => False) (CI.own _ _ _ _ _ _ (by omega)) (fun c A V row hs _ _ => hs) (fun k V h => h.b) hP0
      (fun z a' V => ∃ Bx, W1.heap.size ≤ Bx ∧ V.cell? ⟨Bx, 0, none⟩ = some (.int .i64 (z.1 : Int)) ∧ V.cell? ⟨Bx, 1, none⟩ = some (.int .i64 (z.2 : Int)) ∧ a' = { tmps := #[hv, .int .i64 (n : Int), .int .i64 (i : Int), .slice p1 leaf.length c1, .slice p2 path.length c2, .pointer (some ⟨w.heap.size, 0, none⟩), undef, undef, undef, .pointer (some ⟨w.heap.size + 1, 0, none⟩), .pointer (some ⟨w.heap.size + 1 + 1, 0, none⟩), .pointer (some ⟨g11, 0, none⟩), .pointer (some ⟨Bx, 0, none⟩), u13, u14, u15, u16, .int .i64 (n : Int), .int .i64 (i : Int), .func (.func 54) #[] #[.pointer (some ⟨wc.heap.size + 1, 0, none⟩), .pointer (some ⟨wc.heap.size, 0, none⟩)], stv z.1 z.2, undef, undef, undef, undef, undef, undef, undef, undef, undef, undef, undef, undef, undef], defers := [] })
      (fun z a' _ A V row hs hg hr => by obtain ⟨Bx, e1, e2, e3, e4⟩ := hs; exact ⟨Bx, e1, own_cell e2 hg hr, own_cell e3 hg hr, e4⟩)
      ?assign ?body ?done ?stop
    case assign =>
      rintro l k z V K hz hVs hP hK
      gi_wp2
      exact hK _ _ ((KeepsOthers.alloc _ _).from _) (hP.later (by omega) (by omega) (by omega) (one_new _ _)) ⟨V.heap.size, by omega, by go_simp, by go_simp, rfl⟩
    case body =>
      rintro l k ⟨a, s⟩ a' V hVs hz hP ⟨Bx, hBx, c0, c1, rfl⟩
      obtain ⟨ha, hs, _, has⟩ := steps_at n i k a s hz
      have ha2 : a < 65536 := by omega
      have HC := Lib.hid (alone_any a s V ha2)
      simp only at c0 c1
      cases hal : aloneB a s
      · rw [hal] at HC
        have HP := Lib.hid hP
        obtain ⟨q, r, hqr, hqm⟩ := cs_more hz hal (sha (leafT leaf), path) HPL.out
        have hql := H32.out q hqm
        have hdl := cs_len (stepsL i n) (sha (leafT leaf), path) (sha_len _) k
        have hnx := cs_next hz (sha (leafT leaf), path)
        obtain ⟨⟨d, pr⟩, hE⟩ : ∃ y, csL (stepsL i n) k (sha (leafT leaf), path) = y := ⟨_, rfl⟩
        obtain ⟨pv, p1, p2f, p3⟩ := hP.p
        have hdV := hP.d
        rw [hE] at hqr hdl hnx p3 hdV
        simp only at hqr hdl p3 hdV
        subst hqr
        have hnx : csL (stepsL i n) (k + 1) (sha (leafT leaf), path) = (sha (stepT a d q), r) := by rw [hnx]; unfold cst; rw [if_neg (by rw [hal]; simp)]; rfl
        obtain ⟨b, c, p, rfl, hc1, hc2, hc3, hc4⟩ := p3
        rcases hc4 with hc4 | ⟨o, rfl, hblt, hra⟩
        · cases hc4
        rw [show fl (q :: r) = q.map byt ++ fl r by simp [fl]] at hra
        have hr1 := (range_append hra).1
        have hr2 := (range_append hra).2
        rw [List.length_map, hql] at hr2
        obtain ⟨m, hm⟩ : ∃ m, (q :: r).length = m := ⟨_, rfl⟩
        have hm1 : r.length + 1 = m := hm
        rw [hm] at p1 hc1
        have hBx2 := World.block_lt_of_cell? V _ c0
        have hh := hP.h
        clear hal hP hE hra hm
        gi_wp2_with (refine ⟨trivial, ?_⟩; gi_at_call 41; refine (CallsIn.inRound l (callsIn_wide.2 HC.out)).mono ?_; rintro e V2 ⟨rfl, hb2⟩)
        have HP2 := Lib.hid (HP.out.later (by omega) (by omega) (by omega) hb2)
        have hVW := HP.out.size
        have hz2 := hb2.size
        have hdV := Lib.hid (hdV.below hb2)
        have c0 := (hb2.cell (p := ⟨Bx, 0, none⟩) hBx2).trans c0
        have c1 := (hb2.cell (p := ⟨Bx, 1, none⟩) hBx2).trans c1
        have p1 := (hb2.cell (p := ⟨w.heap.size + 1, 0, none⟩) (by simp only; omega)).trans p1
        have hh := (hb2.cell (p := ⟨w.heap.size, 0, none⟩) (by simp only; omega)).trans hh
        have p2f := (hb2.frozen (p := ⟨w.heap.size + 1, 0, none⟩) (by simp only; omega)).trans p2f
        have hr3 : V2.rangeAt b o (q.map byt) := fun j u hj => (World.cell?_of_block (w := w) (a := ⟨b, o + j, none⟩) ((HP2.out.below.block b hblt))).trans (hr1 j u hj)
        have hBx3 : Bx < V2.heap.size := by omega
        have hw2 : w.heap.size + 3 ≤ V2.heap.size := by omega
        have hg3 : w.heap.size + 3 ≤ g11 := by omega
        have hgx : g11 < Bx := by omega
        have hSB : Hid (∀ U, Kp (· = g11) V2 U → (U.cell? ⟨w.heap.size, 0, none⟩ = some hv ∧ U.cell? ⟨w.heap.size + 1, 0, none⟩ = some (.slice (some ⟨b, o, none⟩) m c)) ∧ (U.cell? ⟨Bx, 0, none⟩ = some (.int .i64 (a : Int)) ∧ U.cell? ⟨Bx, 1, none⟩ = some (.int .i64 (s : Int))) ∧ U.rangeAt b o (q.map byt)) := Lib.hid fun U hk =>
          ⟨⟨(hk.cell (by omega) (by omega)).trans hh, (hk.cell (by omega) (by omega)).trans p1⟩, ⟨(hk.cell hBx3 (by omega)).trans c0, (hk.cell hBx3 (by omega)).trans c1⟩, range_kp hr3 hk (by omega)⟩
        have hKB : Hid (∀ U, Kp (· = g11) V2 U → KOK U) := Lib.hid fun U hk => HK.out.below (Kp.below HP2.out.below HP2.out.below.size hk (fun k hk e => by omega))
        have HT49 : Hid (∀ U, Kp (· = g11) V2 U → Calls Tryd.prog 49 #[stv a s, dgv d, dgv q] U (TxtR (stepT a d q) U)) := Lib.hid fun U hk => stepT_any a s d q U ha2 hdl hql (hKB.out U hk)
        have B0 : Hid (Kp (· = g11) V2 V2.drew) := Lib.hid (Kp.refl V2).drew
        have S0 := Lib.hid (hSB.out _ B0.out)
        have hdV0 : Hid (Dg V2.drew g11 d) := Lib.hid hdV.out
        refine wpIn_only ?_
        refine region_round (S := fun U => (U.cell? ⟨w.heap.size, 0, none⟩ = some hv ∧ U.cell? ⟨w.heap.size + 1, 0, none⟩ = some (.slice (some ⟨b, o, none⟩) m c)) ∧ (U.cell? ⟨Bx, 0, none⟩ = some (.int .i64 (a : Int)) ∧ U.cell? ⟨Bx, 1, none⟩ = some (.int .i64 (s : Int))) ∧ U.rangeAt b o (q.map byt)) (by kernel_rfl) (by kernel_rfl) (fun ⟨_, _, h⟩ => h) S0.out (fun hHeld => ?_)
        refine take_at (i := 0) (k := 23) (v := hv) rfl rfl (by kernel_rfl) (by kernel_rfl) (by kernel_rfl) (fun _ _ _ h => h) (Or.inl ⟨by rfl, fun w' h => by have a0 := h.1.1; go_simp⟩) hHeld ?_
        try simp only [Act.put, List.setIfInBounds_toArray, List.set_cons_zero, List.set_cons_succ]
        refine take_at (i := 1) (k := 24) (v := stv a s) rfl rfl (by kernel_rfl) (by kernel_rfl) (by kernel_rfl) (fun _ _ _ h => h) (Or.inl ⟨by rfl, fun w' h => by have a0 := h.2.1.1; have a1 := h.2.1.2; go_simp⟩) hHeld ?_
        try simp only [Act.put, List.setIfInBounds_toArray, List.set_cons_zero, List.set_cons_succ]
        refine take_at (i := 3) (k := 26) (v := .slice (some ⟨b, o, none⟩) m c) rfl rfl (by kernel_rfl) (by kernel_rfl) (by kernel_rfl) (fun _ _ _ h => h) (Or.inl ⟨by rfl, fun w' h => by have a0 := h.1.2; go_simp⟩) hHeld ?_
        try simp only [Act.put, List.setIfInBounds_toArray, List.set_cons_zero, List.set_cons_succ]
        refine take_at (i := 4) (k := 27) (v := .pointer (some ⟨b, o, none⟩)) rfl rfl (by kernel_rfl) (by kernel_rfl) (by kernel_rfl) (fun _ _ _ h => h) (Or.inl ⟨by rfl, fun w _ => by go_simp; intro h; omega⟩) hHeld ?_
        try simp only [Act.put, List.setIfInBounds_toArray, List.set_cons_zero, List.set_cons_succ]
        refine take_at (i := 5) (k := 28) (v := dgv q) rfl rfl (by kernel_rfl) (by kernel_rfl) (by kernel_rfl) (fun _ _ _ h => h) (yieldsIf_load_mid (by rfl) 30 (.tmp 27) rfl b o rfl (q.map byt) _ (fun w' h => h.2.2) Tryd.underlying30 rfl (el_size hql)) hHeld ?_
        try simp only [Act.put, List.setIfInBounds_toArray, List.set_cons_zero, List.set_cons_succ]
        clear hHeld
        refine wpAnyH_ready (rs := [2]) (by kernel_rfl) (by simp) ?_
        refine AllReadyH.cons rfl (fun K hK => ?_) AllReadyH.nil
        rw [if_pos (by rfl)]
        refine dl_op (.tmp 11) rfl g11 d hdV0.out hdl rfl ?_
        refine hK.out _ _ S0.out (fun hHeld => ?_)
        try simp only [Act.put, List.setIfInBounds_toArray, List.set_cons_zero, List.set_cons_succ]
        clear hK K
        clear hHeld
        refine wpAnyH_ready (rs := [6]) (by kernel_rfl) (by simp) ?_
        refine AllReadyH.cons rfl (fun K hK => ?_) AllReadyH.nil
        rw [if_pos (by rfl)]
        go_simp
        go_at_call 49
        refine (HT49.out _ B0.out).mono ?_
        rintro e U2 ⟨va2, rfl, hoa2, hna2, hba2⟩
        have B2 := Lib.hid (B0.out.next hba2)
        have Z2_0 := Lib.hid (hdV0.out.below hba2)
        have S2 := Lib.hid (hSB.out _ B2.out)
        have T2 := Lib.hid (own_bv hoa2.out)
        refine hK.out _ _ S2.out (fun hHeld => ?_)
        try simp only [Act.put, List.setIfInBounds_toArray, List.set_cons_zero, List.set_cons_succ]
        clear hK K
        clear hHeld
        refine wpAnyH_ready (rs := [7]) (by kernel_rfl) (by simp) ?_
        refine AllReadyH.cons rfl (fun K hK => ?_) AllReadyH.nil
        rw [if_pos (by rfl)]
        go_simp
        go_at_call 21
        refine (sum_any va2 (stepT a d q) U2 T2.out (by have := stepT_len a hdl hql; omega) (hKB.out _ B2.out)).mono ?_
        rintro e U3 ⟨rfl, hba3⟩
        have B3 := Lib.hid (B2.out.next hba3)
        have Z3_0 := Lib.hid (Z2_0.out.below hba3)
        have T3 := Lib.hid (T2.out.below hba3)
        have S3 := Lib.hid (hSB.out _ B3.out)
        refine hK.out _ _ S3.out (fun hHeld => ?_)
        try simp only [Act.put, List.setIfInBounds_toArray, List.set_cons_zero, List.set_cons_succ]
        clear hK K
        clear hHeld
        refine wpAnyH_ready (rs := [8]) (by kernel_rfl) (by simp) ?_
        refine AllReadyH.cons rfl (fun K hK => ?_) AllReadyH.nil
        rw [if_pos (by rfl)]
        refine dg_op (.tmp 11) (.tmp 30) rfl g11 _ _ Z3_0.out hdl (sha_len _) rfl rfl ?_
        rintro U9 hd9 hc9
        have B9 := Lib.hid (B3.out.chg hc9 (.inl rfl))
        have S9 := Lib.hid (hSB.out _ B9.out)
        refine hK.out _ _ S9.out (fun hHeld => ?_)
        try simp only [Act.put, List.setIfInBounds_toArray, List.set_cons_zero, List.set_cons_succ]
        clear hK K
        clear hHeld
        refine wpAnyH_done (by kernel_rfl) ?_ _
        have q1 := S9.out.1.2
        have q2 := (B9.out.frozen (b := w.heap.size + 1) (o := 0) (by omega) (by omega)).trans p2f
        have hz9 := B9.out.size
        clear hh p1 p2f c0 c1 hr1 hdV0 hdV
        by_cases hcc : c = 1
        · have HL : Hid (LD w (.slice (some ⟨b, o, none⟩) (m - 1) 0) r) := Lib.hid (by
            have hr0 : r = [] := List.eq_nil_of_length_eq_zero (by omega)
            subst hr0
            exact ⟨b, 0, _, by rw [← hm1]; rfl, Nat.le_refl _, Nat.zero_le _, fun _ => rfl, .inl rfl⟩)
          clear hr2
          gi_wp2
          exact ⟨(keeps_below hb2).trans ((keeps_kp B9.out (by omega)).trans ((KeepsOthers.setCell _ _ _).from _)), HP2.out.step B9.out hd9.out hg3 (by omega) (by omega) (by omega) (by omega) (by omega) hnx HL.out⟩
        · have HL : Hid (LD w (.slice (some ⟨b, o + 32, none⟩) (m - 1) (c - 1)) r) := Lib.hid ⟨b, c - 1, _, by rw [← hm1]; rfl, by omega, by omega, fun e => by simp at e, .inr ⟨o + 32, rfl, hblt, hr2⟩⟩
          clear hr2
          gi_wp2
          exact ⟨(keeps_below hb2).trans ((keeps_kp B9.out (by omega)).trans ((KeepsOthers.setCell _ _ _).from _)), HP2.out.step B9.out hd9.out hg3 (by omega) (by omega) (by omega) (by omega) (by omega) hnx HL.out⟩
      · rw [hal] at HC
        have hcs : csL (stepsL i n) (k + 1) (sha (leafT leaf), path) = csL (stepsL i n) k (sha (leafT leaf), path) := by rw [cs_next hz]; unfold cst; rw [if_pos hal]
        have HP := Lib.hid hP
        clear hal hP
        gi_wp2_with (refine ⟨trivial, ?_⟩; gi_at_call 41; refine (CallsIn.inRound l (callsIn_wide.2 HC.out)).mono ?_; rintro e V2 ⟨rfl, hb2⟩; have HP2 := Lib.hid (HP.out.later (by omega) (by omega) (by omega) hb2))
        exact ⟨keeps_below hb2, HP2.out.same hcs⟩
    case done =>
      rintro D V hD hP hK
      have k0 := hP.r
      have kD := hP.d
      have hl32 := cs_len (stepsL i n) (sha (leafT leaf), path) (sha_len _) (stepsL i n).length
      have HP := Lib.hid hP
      clear hP
      obtain ⟨d, hE⟩ : ∃ y, (csL (stepsL i n) (stepsL i n).length (sha (leafT leaf), path)).1 = y := ⟨_, rfl⟩
      rw [hE] at kD hl32
      gi_upto_region 7 with fail
      refine wpIn_wide.2 ?_
      go_wp2_with (first | (refine dg_load rfl (.tmp 11) rfl g11 _ kD hl32 rfl ?_) | (refine dg_store rfl (.tmp 10) (.tmp 33) rfl (w.heap.size + 1 + 1) _ _ k0 (by simp) hl32 rfl rfl ?_; rintro w2 hd2 hc2))
      have hK2 : w2.heap[D]? = some (.deferred (some [])) := (hc2.block D (Array.getElem?_eq_some_iff.1 hK).1 (by omega)).trans hK
      have hB2 : Below w.heap.size w w2 := Chg.below HP.out.below HP.out.below.size (by omega) hc2
      gi_wp2
      refine ⟨by simp, .inl ⟨_, _, rfl, run_takeDeferred hK2, ?_⟩⟩
      have hd3 : Dg (w2.putObj D (.deferred none)) (w.heap.size + 1 + 1) d := (World.putObj_heap_other (by omega)).trans hd2.out
      refine ⟨dgv d, results_cell_row rfl _ _ (w.heap.size + 1 + 1) 30 _ (0, 0) _ rfl hd3 Tryd.underlying30 rfl (dg_size hl32), ?_, hB2.trans (belowK_b (w := w) (Nat.le_refl _) _ D _ _ (by omega) hK2 rfl rfl)⟩
      rw [← hE]
      rfl
    case stop =>
      rintro D c V hD hx hK
      exact hx.elim
end Go.Proofs.YteeabenmfmeooaaDoor
