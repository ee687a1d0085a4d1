/-
  Digest: the law DigestTreeSpec.
-/
import Derived.Test.YtekboemijafplaaDoorBoth
import Derived.Test.YtekboemijafplaaDoorRSame
import Derived.Test.YtekboemijafplaaDoorSteps
import Derived.Test.YtekboemijafplaaDoorLawTags
import Derived.Deep.CutRange
namespace Go.Proofs.YtekboemijafplaaDoor
open Go Go.RowKit
theorem row2 (w : World) (a b : Int) (t : TypeId) : ∃ W0, w.alloc (.cells #[.int .i64 a, .int .i64 b] t) = W0 ∧ Below w.heap.size w W0 ∧ w.heap.size < W0.heap.size ∧ ∀ j, j < 2 → ∃ X : Int, W0.cell? ⟨w.heap.size, j, none⟩ = some (.int .i64 X) := by
  refine ⟨_, rfl, one_new _ _, by simp, fun j hj => ?_⟩
  have h := heap_alloc_new w (.cells #[.int .i64 a, .int .i64 b] t)
  match j, hj with
  | 0, _ => exact ⟨a, by simp only [World.cell?, h]; rfl⟩
  | 1, _ => exact ⟨b, by simp only [World.cell?, h]; rfl⟩
theorem wp_bs3 {o : Oper} {a : Act} {w : World} {K : Act → World → Prop} {Q : Exit → Act → World → Prop} {k : Nat} (hd' : o.dst = some k) (t0 t1 t2 : Nat) (ho : o.op = .buildSlice 38 3 #[(0, .tmp t0), (1, .tmp t1), (2, .tmp t2)])
    (p0 p1 p2 : Option Addr) (n0 n1 n2 m0 m1 m2 : Nat)
    (e0 : a.eval (.tmp t0) = .slice p0 n0 m0) (e1 : a.eval (.tmp t1) = .slice p1 n1 m1) (e2 : a.eval (.tmp t2) = .slice p2 n2 m2)
    (h : ∀ (U : World) (g : Nat), Below w.heap.size w U → w.heap.size ≤ g → g < U.heap.size → Hid (U.heap[g]? = some (.cells #[.slice p0 n0 m0, .slice p1 n1 m1, .slice p2 n2 m2] 30 (0, 0))) → K (a.put (some k) (.slice (some ⟨g, 0, none⟩) 3 3)) U) :
    Oper.wp Tryd.prog o a w K Q := by
  have h1 := h (w.alloc (.cells #[.slice p0 n0 m0, .slice p1 n1 m1, .slice p2 n2 m2] 30)) w.heap.size (one_new _ _) (Nat.le_refl _) (by simp) (Lib.hid (heap_alloc_new _ _))
  have e0' : a.tmps[t0]?.getD undef = .slice p0 n0 m0 := by simpa [Act.eval] using e0
  have e1' : a.tmps[t1]?.getD undef = .slice p1 n1 m1 := by simpa [Act.eval] using e1
  have e2' : a.tmps[t2]?.getD undef = .slice p2 n2 m2 := by simpa [Act.eval] using e2
  unfold Oper.wp execOp
  simp only [ho]
  go_simp
  exact h1
theorem LD.preg {w : World} {q : Option Addr} {n cap : Nat} {l : List (List UInt8)} (h : LD w (.slice q n cap) l) (k : Nat) (hk : k ≤ l.length) : LD w (.slice q k cap) (l.take k) := by
  obtain ⟨b, cap', p, e, h1, h2, h3, h4⟩ := h
  cases e
  have hl : (l.take k).length = k := by rw [List.length_take]; omega
  refine ⟨b, cap, q, by rw [hl], by rw [hl]; omega, h2, h3, ?_⟩
  rcases h4 with rfl | ⟨o, e, hlt, hc⟩
  · exact .inl (by simp)
  · exact .inr ⟨o, e, hlt, LD.range_take hc k⟩
theorem three_paths {W : World} {g3 m0 m1 m2 c0 c1 : Nat} {q0 q1 : Option Addr} {l0 l1 : List (List UInt8)} (hr : W.heap[g3]? = some (.cells #[.slice q0 m0 c0, .slice q1 m1 c1, .slice q0 m2 c0] 30 (0, 0)))
    (h0 : LD W (.slice q0 m0 c0) l0) (h1 : LD W (.slice q1 m1 c1) l1) (h2 : m2 ≤ l0.length) (d0 : D32 l0) (d1 : D32 l1) :
    ∀ j, j < 3 → ∃ q m c pth, W.cell? ⟨g3, j, none⟩ = some (.slice q m c) ∧ LD W (.slice q m c) pth ∧ D32 pth := fun j hj => by
  match j, hj with
  | 0, _ => exact ⟨q0, m0, c0, l0, by simp [World.cell?, hr], h0, d0⟩
  | 1, _ => exact ⟨q1, m1, c1, l1, by simp [World.cell?, hr], h1, d1⟩
  | 2, _ => exact ⟨q0, m2, c0, l0.take m2, by simp [World.cell?, hr], h0.preg m2 h2, d0.take m2⟩
set_option maxRecDepth 100000 in
set_option maxHeartbeats 16000000 in
theorem treeSpec_any (v : Value) (bs : List UInt8) (i n : Int) (d : List UInt8) (w : World) (hv : BV w v bs) (hd : d.length = 32) (hk : KOK w) : Calls Tryd.prog 4 #[v, .int .i64 i, .int .i64 n, dgv d] w (Ret (.bool true) w) := by
  have HV := Lib.hid hv
  have HK := Lib.hid hk
  have HD32 := Lib.hid hd
  have hbox : Dg (w.alloc (.cells (d.map byt).toArray 26)) w.heap.size d := heap_alloc_new _ _
  have HBX := Lib.hid hbox
  have HON := Lib.hid (one_new w (.cells (d.map byt).toArray 26))
  have hsz0 : (w.alloc (.cells (d.map byt).toArray 26)).heap.size = w.heap.size + 1 := World.size_alloc _ _
  clear hk hv hd hbox
  obtain ⟨k, hkk⟩ : ∃ k, min bs.length 24 = k := ⟨_, rfl⟩
  have hk24 : k ≤ 24 := by omega
  go_enter Tryd.func4, Tryd.ntmps4
  go_wp2_with (first
    | (go_at_call 11; refine (sane_any _ (HK.out.below HON.out)).mono ?_; rintro e w1 ⟨rfl, hb1⟩; have HB1 := Lib.hid (HON.out.trans (hb1.mono (by omega))); have HD1 := Lib.hid (HBX.out.below hb1); clear hb1))
  refine (digestsOf_any v bs w1 (HV.out.below HB1.out)).mono ?_
  rintro e w2 ⟨L, rfl, ho2, hb2, hob2⟩
  rw [hkk] at ho2
  have hl32 := dof_32 bs k
  have hlen := dof_len bs k
  generalize dof bs k = l at *
  have HL := Lib.hid (ownN_ld (by rw [hlen]; exact ho2) hl32)
  have HB2 := Lib.hid (HB1.out.trans (hb2.mono HB1.out.size))
  have HD2 := Lib.hid (HD1.out.below hb2)
  have H32 := Lib.hid hl32
  clear ho2 hb2 hob2 HB1 hl32 HD1 HBX
  obtain ⟨p, cap, rfl⟩ : ∃ p cap, L = .slice p k cap := by
    obtain ⟨b, cap, p, rfl, _⟩ := HL.out
    exact ⟨p, cap, by rw [hlen]⟩
  have heq : ∀ w, (Op.equalIn 10000 26 (dgv (T l)) (dgv (T l))).run Tryd.prog w = .ok true w := fun w => by rw [dg_equal _ _ (T_len _) (T_len _), beq_self_eq_true]
  go_wp2_with (first
    | (go_at_call 17; refine (tree_any l _ w2 (by omega) H32.out HL.out (HK.out.below HB2.out)).mono ?_; rintro e w3 ⟨rfl, hb3⟩; have HB3 := Lib.hid (HB2.out.trans (hb3.mono HB2.out.size)); have HL3 := Lib.hid (HL.out.below hb3); have HD3 := Lib.hid (HD2.out.below hb3); clear hb3)
    | (go_at_call 18; refine (rtree_any l _ w3 (by omega) H32.out HL3.out).mono ?_; rintro e w4 ⟨rfl, hb4⟩; have HB4 := Lib.hid (HB3.out.trans (hb4.mono HB3.out.size)); have HL4 := Lib.hid (HL3.out.below hb4); have HD4 := Lib.hid (HD3.out.below hb4); clear hb4))
  obtain ⟨W0, hW0, hB5, hlt5, hX⟩ := row2 w4 i (bits BinOp.and IntKind.i64 i 15) 3
  rw [hW0]
  have HX := Lib.hid hX
  have HB5 := Lib.hid (HB4.out.trans (hB5.mono HB4.out.size))
  have HL5 := Lib.hid (HL4.out.below hB5)
  have HD5 := Lib.hid (HD4.out.below hB5)
  clear hW0 hB5 hX HB4 HL4 HD4 HB3 HL3 HD3 HB2 HL HD2 heq
  generalize w4.heap.size = g0 at *
  go_loopw [38] (fun x wr => ∃ j : Nat, x = .int .i64 (j : Int) ∧ j ≤ 2 ∧ Hid (Below W0.heap.size W0 wr)) (fun x _ => 2 - (intOf x).toNat)
  case atStart => exact ⟨0, rfl, by omega, Lib.hid (Below.refl _ _)⟩
  case round =>
    obtain ⟨j, rfl, hj, HB⟩ := hrel
    by_cases hlt : j < 2
    · have c1 : (j : Int) < 2 := by omega
      obtain ⟨X, hXc⟩ := HX.out j hlt
      have x0 := (HB.out.cell (p := ⟨g0, j, none⟩) hlt5).trans hXc
      clear hXc
      have HB6 := Lib.hid (HB5.out.trans (HB.out.mono HB5.out.size))
      have HL6 := Lib.hid (HL5.out.below HB.out)
      have HD6 := Lib.hid (HD5.out.below HB.out)
      obtain ⟨pa, E, hp32, hp24, hP1, hP2⟩ := path_both l X (by omega) H32.out
      have HP1 := Lib.hid hP1
      have HP2 := Lib.hid hP2
      have HP32 := Lib.hid hp32
      have hE : (E == E) = true := beq_self_eq_true E
      clear hP1 hP2 hp32
      go_upto_region 11 with (first
        | (go_at_call 19; refine (HP1.out _ wr HL6.out (HK.out.below HB6.out)).mono ?_; rintro e w7 ⟨v7, rfl, hp7, hb7⟩; have HB7 := Lib.hid hb7; have HP7 := Lib.hid hp7; have HL7 := Lib.hid (HL6.out.below hb7); clear hb7 hp7)
        | (go_at_call 20; refine (HP2.out _ w7 HL7.out).mono ?_; rintro e w8 ⟨v8, rfl, hp8, hb8⟩; have HB8 := Lib.hid (HB7.out.trans (hb8.mono HB7.out.size)); have HP8 := Lib.hid hp8; have HP78 := Lib.hid (HP7.out.below hb8); clear hb8 hp8))
      obtain ⟨q7, c7, rfl⟩ : ∃ q c, v7 = .slice q pa.length c := by
        obtain ⟨b, cap, q, rfl, _⟩ := HP7.out
        exact ⟨q, cap, rfl⟩
      obtain ⟨q8, c8, rfl, hc8⟩ : ∃ q c, v8 = .slice q pa.length c ∧ pa.length ≤ c := by
        obtain ⟨b, cap, q, rfl, h, _⟩ := HP8.out
        exact ⟨q, cap, rfl, h⟩
      go_wp2_with (first
        | (go_at_call 21; refine (rsame_any _ _ pa w8 (by omega) HP32.out HP78.out HP8.out).mono ?_; rintro e w9 ⟨rfl, hb9⟩; have HB9 := Lib.hid (HB8.out.trans (hb9.mono HB8.out.size)); have HP9 := Lib.hid (HP8.out.below hb9); clear hb9))
      obtain ⟨W1, hW1, hB10, hlt10, hY⟩ := row2 w9 n (k : Int) 3
      rw [hW1]
      have HY := Lib.hid hY
      have HB10 := Lib.hid (HB9.out.trans (hB10.mono HB9.out.size))
      have HP10 := Lib.hid (HP9.out.below hB10)
      have HD10 := Lib.hid (HD6.out.below HB10.out)
      have HB11 := Lib.hid (HB6.out.trans (HB10.out.mono HB6.out.size))
      clear hW1 hB10 hY HB7 HP7 HL7 HB8 HP8 HP78 HB9 HP9
      generalize w9.heap.size = g1 at *
      go_loopw [68] (fun x wq => ∃ j : Nat, x = .int .i64 (j : Int) ∧ j ≤ 2 ∧ Hid (Below W1.heap.size W1 wq)) (fun x _ => 2 - (intOf x).toNat)
      case atStart => exact ⟨0, rfl, by omega, Lib.hid (Below.refl _ _)⟩
      case round =>
        obtain ⟨j2, rfl, hj2, HBq⟩ := hrel
        by_cases hlt2 : j2 < 2
        · have c2 : (j2 : Int) < 2 := by omega
          obtain ⟨Y, hYc⟩ := HY.out j2 hlt2
          have y0 := (HBq.out.cell (p := ⟨g1, j2, none⟩) hlt10).trans hYc
          clear hYc
          have HPm := Lib.hid (HP10.out.below HBq.out)
          have HDm := Lib.hid (HD10.out.below HBq.out)
          have HBm := Lib.hid (HB11.out.trans (HBq.out.mono HB11.out.size))
          have hR8 := dg_range HDm.out
          have hd32s : Hid (D32 [d]) := Lib.hid (fun x hx => by simp at hx; rw [hx]; exact HD32.out)
          have hall : Hid (D32 (([] : List (List UInt8)) ++ pa ++ [d])) := Lib.hid (by rw [List.nil_append]; exact HP32.out.append hd32s.out)
          have hsd : (Tryd.prog.info? 26).map (·.size) = some (d.map byt).length := by rw [size26, List.length_map, HD32.out]
          have hdiv : (pa.length : Int).tdiv 2 = ((pa.length / 2 : Nat) : Int) := (Int.ofNat_tdiv _ 2).symm
          have hle2 : pa.length / 2 ≤ c8 := by omega
          have hle3 : pa.length / 2 ≤ pa.length := by omega
          generalize pa.length / 2 = hf at *
          have hwf : IntKind.i64.wrap (hf : Int) = (hf : Int) := IntWalk.i64_in _ (by omega)
          go_upto_region 16 with fail
          go_cut [84, 85, 86] from 72 to 83 (fun s84 s85 s86 wc => ∃ (g3 : Nat) (qq : Option Addr) (cq : Nat), s84 = .slice (some ⟨g3, 0, none⟩) 3 3 ∧ s85 = .int .i64 3 ∧ s86 = .int .i64 0 ∧ g3 < wc.heap.size ∧ Hid (wc.heap[g3]? = some (.cells #[.slice q8 pa.length c8, .slice qq (([] : List (List UInt8)) ++ pa ++ [d]).length cq, .slice q8 hf c8] 30 (0, 0))) ∧ Hid (LD wc (.slice qq (([] : List (List UInt8)) ++ pa ++ [d]).length cq) (([] : List (List UInt8)) ++ pa ++ [d])) ∧ Hid (Below wr.heap.size wr wc))
          case first =>
            refine wp_region_held_drew (S := fun w' => w'.rangeAt w.heap.size 0 (d.map byt)) (by kernel_rfl) hR8 (fun hHeld => ?_)
            have B0 := Lib.hid (below_drew (Below.refl wr.heap.size wr))
            refine take_at (i := 0) (k := 72) (v := .slice q8 pa.length c8) rfl rfl (by kernel_rfl) (by kernel_rfl) (by kernel_rfl) (fun _ _ _ h => h) (Or.inl ⟨by rfl, fun w _ => rfl⟩) hHeld ?_
            try simp only [Act.put, List.setIfInBounds_toArray, List.set_cons_zero, List.set_cons_succ]
            refine take_at (i := 2) (k := 74) (v := .slice q8 pa.length c8) rfl rfl (by kernel_rfl) (by kernel_rfl) (by kernel_rfl) (fun _ _ _ h => h) (Or.inl ⟨by rfl, fun w _ => rfl⟩) hHeld ?_
            try simp only [Act.put, List.setIfInBounds_toArray, List.set_cons_zero, List.set_cons_succ]
            refine take_at (i := 4) (k := 76) (v := dgv d) rfl rfl (by kernel_rfl) (by kernel_rfl) (by kernel_rfl) (fun _ _ _ h => h) (yieldsIf_load_mid (by rfl) 26 (.tmp 7) rfl w.heap.size 0 rfl (d.map byt) _ (fun w' h => h) Tryd.underlying26 rfl hsd) hHeld ?_
            try simp only [Act.put, List.setIfInBounds_toArray, List.set_cons_zero, List.set_cons_succ]
            refine take_at (i := 7) (k := 79) (v := .slice q8 pa.length c8) rfl rfl (by kernel_rfl) (by kernel_rfl) (by kernel_rfl) (fun _ _ _ h => h) (Or.inl ⟨by rfl, fun w _ => rfl⟩) hHeld ?_
            try simp only [Act.put, List.setIfInBounds_toArray, List.set_cons_zero, List.set_cons_succ]
            refine take_at (i := 8) (k := 80) (v := .slice q8 pa.length c8) rfl rfl (by kernel_rfl) (by kernel_rfl) (by kernel_rfl) (fun _ _ _ h => h) (Or.inl ⟨by rfl, fun w _ => rfl⟩) hHeld ?_
            try simp only [Act.put, List.setIfInBounds_toArray, List.set_cons_zero, List.set_cons_succ]
            refine take_at (i := 9) (k := 81) (v := .int .i64 (pa.length : Int)) rfl rfl (by kernel_rfl) (by kernel_rfl) (by kernel_rfl) (fun _ _ _ h => h) (Or.inl ⟨by rfl, fun w _ => by go_simp⟩) hHeld ?_
            try simp only [Act.put, List.setIfInBounds_toArray, List.set_cons_zero, List.set_cons_succ]
            refine take_at (i := 10) (k := 82) (v := .int .i64 (hf : Int)) rfl rfl (by kernel_rfl) (by kernel_rfl) (by kernel_rfl) (fun _ _ _ h => h) (Or.inl ⟨by rfl, fun w _ => by go_simp⟩) hHeld ?_
            try simp only [Act.put, List.setIfInBounds_toArray, List.set_cons_zero, List.set_cons_succ]
            refine take_at (i := 11) (k := 83) (v := .slice q8 (hf) c8) rfl rfl (by kernel_rfl) (by kernel_rfl) (by kernel_rfl) (fun _ _ _ h => h) (Or.inl ⟨by rfl, fun w _ => by go_simp⟩) hHeld ?_
            try simp only [Act.put, List.setIfInBounds_toArray, List.set_cons_zero, List.set_cons_succ]
            refine take_at (i := 14) (k := 86) (v := .int .i64 0) rfl rfl (by kernel_rfl) (by kernel_rfl) (by kernel_rfl) (fun _ _ _ h => h) (Or.inl ⟨by rfl, fun w _ => by go_simp⟩) hHeld ?_
            try simp only [Act.put, List.setIfInBounds_toArray, List.set_cons_zero, List.set_cons_succ]
            clear hHeld
            refine wpAnyH_ready (rs := [1, 5]) (by kernel_rfl) (by simp) ?_
            refine AllReadyH.cons rfl (fun K hK => ?_) (AllReadyH.cons rfl (fun K hK => ?_) AllReadyH.nil)
            · rw [if_pos (by rfl)]
              refine wp_b0 rfl rfl ?_
              intro U1 g1 hbe1 hge1 hlt1 O1
              have B1 := Lib.hid (B0.out.trans (hbe1.mono B0.out.size))
              have hz1 := B0.out.size
              have hy1 := hbe1.size
              have ob1 : ∀ j, (Value.slice (some ⟨g1, 0, none⟩) 0 0).ownBlock = some j → wr.heap.size ≤ j ∧ True := fun j e => by
                have e' : g1 = j := Option.some.inj e
                subst e'
                exact ⟨by omega, trivial⟩
              clear hbe1
              refine hK.out _ _ (range_below hR8 B1.out) (fun hHeld => ?_)
              try simp only [Act.put, List.setIfInBounds_toArray, List.set_cons_zero, List.set_cons_succ]
              clear hK K
              clear hHeld
              refine wpAnyH_ready (rs := [3, 5]) (by kernel_rfl) (by simp) ?_
              refine AllReadyH.cons rfl (fun K hK => ?_) (AllReadyH.cons rfl (fun K hK => ?_) AllReadyH.nil)
              · rw [if_pos (by rfl)]
                refine wp_ap rfl (.tmp 73) (.tmp 74) rfl (.slice (some ⟨g1, 0, none⟩) 0 0) (.slice q8 pa.length c8) ([] : List (List UInt8)) pa rfl O1.out rfl (HPm.out.below B1.out) HP32.out (by simp; omega) ?_
                intro v2 U2 O2 hg2 hv2
                have B2 := Lib.hid (grown_below B1.out B1.out.size hg2 (fun j e => (ob1 j e).1))
                have hz2 := B1.out.size
                have hy2 := hg2.size
                have ob2 : ∀ j, v2.ownBlock = some j → wr.heap.size ≤ j ∧ True := fun j e => by
                  rcases hv2 with h | ⟨j', h, h'⟩
                  · rw [h] at e
                    exact ob1 j e
                  · rw [h] at e
                    have e' : j' = j := Option.some.inj e
                    subst e'
                    exact ⟨by omega, trivial⟩
                clear hg2 hv2
                refine hK.out _ _ (range_below hR8 B2.out) (fun hHeld => ?_)
                try simp only [Act.put, List.setIfInBounds_toArray, List.set_cons_zero, List.set_cons_succ]
                clear hK K
                clear hHeld
                refine wpAnyH_ready (rs := [5]) (by kernel_rfl) (by simp) ?_
                refine AllReadyH.cons rfl (fun K hK => ?_) AllReadyH.nil
                rw [if_pos (by rfl)]
                refine wp_b1 rfl 76 rfl d rfl HD32.out ?_
                intro U3 g3 hbe3 hge3 hlt3 L3
                have B3 := Lib.hid (B2.out.trans (hbe3.mono B2.out.size))
                have hz3 := B2.out.size
                have hy3 := hbe3.size
                have O3 := Lib.hid (OwnN.later O2.out hbe3)
                have ob3 : ∀ j, (v2 : Value).ownBlock = some j → wr.heap.size ≤ j ∧ g3 ≠ j := fun j e => ⟨(ob2 j e).1, by have := O2.out.lt e; omega⟩
                clear hbe3
                refine hK.out _ _ (range_below hR8 B3.out) (fun hHeld => ?_)
                try simp only [Act.put, List.setIfInBounds_toArray, List.set_cons_zero, List.set_cons_succ]
                clear hK K
                clear hHeld
                refine wpAnyH_ready (rs := [6]) (by kernel_rfl) (by simp) ?_
                refine AllReadyH.cons rfl (fun K hK => ?_) AllReadyH.nil
                rw [if_pos (by rfl)]
                refine wp_ap rfl (.tmp 75) (.tmp 77) rfl v2 (.slice (some ⟨g3, 0, none⟩) 1 1) (([] : List (List UInt8)) ++ pa) [d] rfl O3.out rfl L3.out hd32s.out (by simp; omega) ?_
                intro v4 U4 O4 hg4 hv4
                have B4 := Lib.hid (grown_below B3.out B3.out.size hg4 (fun j e => (ob3 j e).1))
                have hz4 := B3.out.size
                have hy4 := hg4.size
                have L4 := Lib.hid (ld_grown L3.out hg4 (fun j e => (ob3 j e).2))
                have hgl4 : g3 < U4.heap.size := Nat.lt_of_lt_of_le hlt3 hg4.size
                have ob4 : ∀ j, v4.ownBlock = some j → wr.heap.size ≤ j ∧ g3 ≠ j := fun j e => by
                  rcases hv4 with h | ⟨j', h, h'⟩
                  · rw [h] at e
                    exact ob3 j e
                  · rw [h] at e
                    have e' : j' = j := Option.some.inj e
                    subst e'
                    exact ⟨by omega, by have := hlt3; omega⟩
                clear hg4 hv4
                refine hK.out _ _ (range_below hR8 B4.out) (fun hHeld => ?_)
                try simp only [Act.put, List.setIfInBounds_toArray, List.set_cons_zero, List.set_cons_succ]
                clear hK K
                clear hHeld
                refine wpAnyH_ready (rs := [12]) (by kernel_rfl) (by simp) ?_
                refine AllReadyH.cons rfl (fun K hK => ?_) AllReadyH.nil
                rw [if_pos (by rfl)]
                obtain ⟨bq, cq, qq, rfl, hcq1, hcq2, hcq3, hcq4⟩ := ownN_ld O4.out hall.out
                have LQ := Lib.hid (show LD U4 (.slice qq (([] : List (List UInt8)) ++ pa ++ [d]).length cq) (([] : List (List UInt8)) ++ pa ++ [d]) from ⟨bq, cq, qq, rfl, hcq1, hcq2, hcq3, hcq4⟩)
                refine wp_bs3 rfl 72 78 83 rfl q8 qq q8 pa.length (([] : List (List UInt8)) ++ pa ++ [d]).length (hf) c8 cq c8 rfl rfl rfl ?_
                intro U5 g5 hbe5 hge5 hlt5 R5
                have B5 := Lib.hid (B4.out.trans (hbe5.mono B4.out.size))
                have LR := Lib.hid (LQ.out.below hbe5)
                clear hbe5 hcq4
                refine hK.out _ _ (range_below hR8 B5.out) (fun hHeld => ?_)
                try simp only [Act.put, List.setIfInBounds_toArray, List.set_cons_zero, List.set_cons_succ]
                clear hK K
                refine take_at (i := 13) (k := 85) (v := .int .i64 3) rfl rfl (by kernel_rfl) (by kernel_rfl) (by kernel_rfl) (fun _ _ _ h => h) (Or.inl ⟨by rfl, fun w _ => by go_simp⟩) hHeld ?_
                try simp only [Act.put, List.setIfInBounds_toArray, List.set_cons_zero, List.set_cons_succ]
                clear hHeld
                refine wpAnyH_done (by kernel_rfl) ?_ _
                go_wp2_with fail
                go_meet
                case rel => exact ⟨g5, qq, cq, rfl, rfl, rfl, hlt5, R5, LR, B5⟩
              · rw [if_pos (by rfl)]
                refine wp_b1 rfl 76 rfl d rfl HD32.out ?_
                intro U2 g2 hbe2 hge2 hlt2 L2
                have B2 := Lib.hid (B1.out.trans (hbe2.mono B1.out.size))
                have hz2 := B1.out.size
                have hy2 := hbe2.size
                have O2 := Lib.hid (OwnN.later O1.out hbe2)
                have ob2 : ∀ j, ((.slice (some ⟨g1, 0, none⟩) 0 0) : Value).ownBlock = some j → wr.heap.size ≤ j ∧ g2 ≠ j := fun j e => ⟨(ob1 j e).1, by have := O1.out.lt e; omega⟩
                clear hbe2
                refine hK.out _ _ (range_below hR8 B2.out) (fun hHeld => ?_)
                try simp only [Act.put, List.setIfInBounds_toArray, List.set_cons_zero, List.set_cons_succ]
                clear hK K
                clear hHeld
                refine wpAnyH_ready (rs := [3]) (by kernel_rfl) (by simp) ?_
                refine AllReadyH.cons rfl (fun K hK => ?_) AllReadyH.nil
                rw [if_pos (by rfl)]
                refine wp_ap rfl (.tmp 73) (.tmp 74) rfl (.slice (some ⟨g1, 0, none⟩) 0 0) (.slice q8 pa.length c8) ([] : List (List UInt8)) pa rfl O2.out rfl (HPm.out.below B2.out) HP32.out (by simp; omega) ?_
                intro v3 U3 O3 hg3 hv3
                have B3 := Lib.hid (grown_below B2.out B2.out.size hg3 (fun j e => (ob2 j e).1))
                have hz3 := B2.out.size
                have hy3 := hg3.size
                have L3 := Lib.hid (ld_grown L2.out hg3 (fun j e => (ob2 j e).2))
                have hgl3 : g2 < U3.heap.size := Nat.lt_of_lt_of_le hlt2 hg3.size
                have ob3 : ∀ j, v3.ownBlock = some j → wr.heap.size ≤ j ∧ g2 ≠ j := fun j e => by
                  rcases hv3 with h | ⟨j', h, h'⟩
                  · rw [h] at e
                    exact ob2 j e
                  · rw [h] at e
                    have e' : j' = j := Option.some.inj e
                    subst e'
                    exact ⟨by omega, by have := hlt2; omega⟩
                clear hg3 hv3
                refine hK.out _ _ (range_below hR8 B3.out) (fun hHeld => ?_)
                try simp only [Act.put, List.setIfInBounds_toArray, List.set_cons_zero, List.set_cons_succ]
                clear hK K
                clear hHeld
                refine wpAnyH_ready (rs := [6]) (by kernel_rfl) (by simp) ?_
                refine AllReadyH.cons rfl (fun K hK => ?_) AllReadyH.nil
                rw [if_pos (by rfl)]
                refine wp_ap rfl (.tmp 75) (.tmp 77) rfl v3 (.slice (some ⟨g2, 0, none⟩) 1 1) (([] : List (List UInt8)) ++ pa) [d] rfl O3.out rfl L3.out hd32s.out (by simp; omega) ?_
                intro v4 U4 O4 hg4 hv4
                have B4 := Lib.hid (grown_below B3.out B3.out.size hg4 (fun j e => (ob3 j e).1))
                have hz4 := B3.out.size
                have hy4 := hg4.size
                have L4 := Lib.hid (ld_grown L3.out hg4 (fun j e => (ob3 j e).2))
                have hgl4 : g2 < U4.heap.size := Nat.lt_of_lt_of_le hgl3 hg4.size
                have ob4 : ∀ j, v4.ownBlock = some j → wr.heap.size ≤ j ∧ g2 ≠ j := fun j e => by
                  rcases hv4 with h | ⟨j', h, h'⟩
                  · rw [h] at e
                    exact ob3 j e
                  · rw [h] at e
                    have e' : j' = j := Option.some.inj e
                    subst e'
                    exact ⟨by omega, by have := hgl3; omega⟩
                clear hg4 hv4
                refine hK.out _ _ (range_below hR8 B4.out) (fun hHeld => ?_)
                try simp only [Act.put, List.setIfInBounds_toArray, List.set_cons_zero, List.set_cons_succ]
                clear hK K
                clear hHeld
                refine wpAnyH_ready (rs := [12]) (by kernel_rfl) (by simp) ?_
                refine AllReadyH.cons rfl (fun K hK => ?_) AllReadyH.nil
                rw [if_pos (by rfl)]
                obtain ⟨bq, cq, qq, rfl, hcq1, hcq2, hcq3, hcq4⟩ := ownN_ld O4.out hall.out
                have LQ := Lib.hid (show LD U4 (.slice qq (([] : List (List UInt8)) ++ pa ++ [d]).length cq) (([] : List (List UInt8)) ++ pa ++ [d]) from ⟨bq, cq, qq, rfl, hcq1, hcq2, hcq3, hcq4⟩)
                refine wp_bs3 rfl 72 78 83 rfl q8 qq q8 pa.length (([] : List (List UInt8)) ++ pa ++ [d]).length (hf) c8 cq c8 rfl rfl rfl ?_
                intro U5 g5 hbe5 hge5 hlt5 R5
                have B5 := Lib.hid (B4.out.trans (hbe5.mono B4.out.size))
                have LR := Lib.hid (LQ.out.below hbe5)
                clear hbe5 hcq4
                refine hK.out _ _ (range_below hR8 B5.out) (fun hHeld => ?_)
                try simp only [Act.put, List.setIfInBounds_toArray, List.set_cons_zero, List.set_cons_succ]
                clear hK K
                refine take_at (i := 13) (k := 85) (v := .int .i64 3) rfl rfl (by kernel_rfl) (by kernel_rfl) (by kernel_rfl) (fun _ _ _ h => h) (Or.inl ⟨by rfl, fun w _ => by go_simp⟩) hHeld ?_
                try simp only [Act.put, List.setIfInBounds_toArray, List.set_cons_zero, List.set_cons_succ]
                clear hHeld
                refine wpAnyH_done (by kernel_rfl) ?_ _
                go_wp2_with fail
                go_meet
                case rel => exact ⟨g5, qq, cq, rfl, rfl, rfl, hlt5, R5, LR, B5⟩
            · rw [if_pos (by rfl)]
              refine wp_b1 rfl 76 rfl d rfl HD32.out ?_
              intro U1 g1 hbe1 hge1 hlt1 L1
              have B1 := Lib.hid (B0.out.trans (hbe1.mono B0.out.size))
              have hz1 := B0.out.size
              have hy1 := hbe1.size
              clear hbe1
              refine hK.out _ _ (range_below hR8 B1.out) (fun hHeld => ?_)
              try simp only [Act.put, List.setIfInBounds_toArray, List.set_cons_zero, List.set_cons_succ]
              clear hK K
              clear hHeld
              refine wpAnyH_ready (rs := [1]) (by kernel_rfl) (by simp) ?_
              refine AllReadyH.cons rfl (fun K hK => ?_) AllReadyH.nil
              rw [if_pos (by rfl)]
              refine wp_b0 rfl rfl ?_
              intro U2 g2 hbe2 hge2 hlt2 O2
              have B2 := Lib.hid (B1.out.trans (hbe2.mono B1.out.size))
              have hz2 := B1.out.size
              have hy2 := hbe2.size
              have L2 := Lib.hid (L1.out.below hbe2)
              have hgl2 : g1 < U2.heap.size := Nat.lt_of_lt_of_le hlt1 hbe2.size
              have ob2 : ∀ j, (Value.slice (some ⟨g2, 0, none⟩) 0 0).ownBlock = some j → wr.heap.size ≤ j ∧ g1 ≠ j := fun j e => by
                have e' : g2 = j := Option.some.inj e
                subst e'
                exact ⟨by omega, by omega⟩
              clear hbe2
              refine hK.out _ _ (range_below hR8 B2.out) (fun hHeld => ?_)
              try simp only [Act.put, List.setIfInBounds_toArray, List.set_cons_zero, List.set_cons_succ]
              clear hK K
              clear hHeld
              refine wpAnyH_ready (rs := [3]) (by kernel_rfl) (by simp) ?_
              refine AllReadyH.cons rfl (fun K hK => ?_) AllReadyH.nil
              rw [if_pos (by rfl)]
              refine wp_ap rfl (.tmp 73) (.tmp 74) rfl (.slice (some ⟨g2, 0, none⟩) 0 0) (.slice q8 pa.length c8) ([] : List (List UInt8)) pa rfl O2.out rfl (HPm.out.below B2.out) HP32.out (by simp; omega) ?_
              intro v3 U3 O3 hg3 hv3
              have B3 := Lib.hid (grown_below B2.out B2.out.size hg3 (fun j e => (ob2 j e).1))
              have hz3 := B2.out.size
              have hy3 := hg3.size
              have L3 := Lib.hid (ld_grown L2.out hg3 (fun j e => (ob2 j e).2))
              have hgl3 : g1 < U3.heap.size := Nat.lt_of_lt_of_le hgl2 hg3.size
              have ob3 : ∀ j, v3.ownBlock = some j → wr.heap.size ≤ j ∧ g1 ≠ j := fun j e => by
                rcases hv3 with h | ⟨j', h, h'⟩
                · rw [h] at e
                  exact ob2 j e
                · rw [h] at e
                  have e' : j' = j := Option.some.inj e
                  subst e'
                  exact ⟨by omega, by have := hgl2; omega⟩
              clear hg3 hv3
              refine hK.out _ _ (range_below hR8 B3.out) (fun hHeld => ?_)
              try simp only [Act.put, List.setIfInBounds_toArray, List.set_cons_zero, List.set_cons_succ]
              clear hK K
              clear hHeld
              refine wpAnyH_ready (rs := [6]) (by kernel_rfl) (by simp) ?_
              refine AllReadyH.cons rfl (fun K hK => ?_) AllReadyH.nil
              rw [if_pos (by rfl)]
              refine wp_ap rfl (.tmp 75) (.tmp 77) rfl v3 (.slice (some ⟨g1, 0, none⟩) 1 1) (([] : List (List UInt8)) ++ pa) [d] rfl O3.out rfl L3.out hd32s.out (by simp; omega) ?_
              intro v4 U4 O4 hg4 hv4
              have B4 := Lib.hid (grown_below B3.out B3.out.size hg4 (fun j e => (ob3 j e).1))
              have hz4 := B3.out.size
              have hy4 := hg4.size
              have L4 := Lib.hid (ld_grown L3.out hg4 (fun j e => (ob3 j e).2))
              have hgl4 : g1 < U4.heap.size := Nat.lt_of_lt_of_le hgl3 hg4.size
              have ob4 : ∀ j, v4.ownBlock = some j → wr.heap.size ≤ j ∧ g1 ≠ j := fun j e => by
                rcases hv4 with h | ⟨j', h, h'⟩
                · rw [h] at e
                  exact ob3 j e
                · rw [h] at e
                  have e' : j' = j := Option.some.inj e
                  subst e'
                  exact ⟨by omega, by have := hgl3; omega⟩
              clear hg4 hv4
              refine hK.out _ _ (range_below hR8 B4.out) (fun hHeld => ?_)
              try simp only [Act.put, List.setIfInBounds_toArray, List.set_cons_zero, List.set_cons_succ]
              clear hK K
              clear hHeld
              refine wpAnyH_ready (rs := [12]) (by kernel_rfl) (by simp) ?_
              refine AllReadyH.cons rfl (fun K hK => ?_) AllReadyH.nil
              rw [if_pos (by rfl)]
              obtain ⟨bq, cq, qq, rfl, hcq1, hcq2, hcq3, hcq4⟩ := ownN_ld O4.out hall.out
              have LQ := Lib.hid (show LD U4 (.slice qq (([] : List (List UInt8)) ++ pa ++ [d]).length cq) (([] : List (List UInt8)) ++ pa ++ [d]) from ⟨bq, cq, qq, rfl, hcq1, hcq2, hcq3, hcq4⟩)
              refine wp_bs3 rfl 72 78 83 rfl q8 qq q8 pa.length (([] : List (List UInt8)) ++ pa ++ [d]).length (hf) c8 cq c8 rfl rfl rfl ?_
              intro U5 g5 hbe5 hge5 hlt5 R5
              have B5 := Lib.hid (B4.out.trans (hbe5.mono B4.out.size))
              have LR := Lib.hid (LQ.out.below hbe5)
              clear hbe5 hcq4
              refine hK.out _ _ (range_below hR8 B5.out) (fun hHeld => ?_)
              try simp only [Act.put, List.setIfInBounds_toArray, List.set_cons_zero, List.set_cons_succ]
              clear hK K
              refine take_at (i := 13) (k := 85) (v := .int .i64 3) rfl rfl (by kernel_rfl) (by kernel_rfl) (by kernel_rfl) (fun _ _ _ h => h) (Or.inl ⟨by rfl, fun w _ => by go_simp⟩) hHeld ?_
              try simp only [Act.put, List.setIfInBounds_toArray, List.set_cons_zero, List.set_cons_succ]
              clear hHeld
              refine wpAnyH_done (by kernel_rfl) ?_ _
              go_wp2_with fail
              go_meet
              case rel => exact ⟨g5, qq, cq, rfl, rfl, rfl, hlt5, R5, LR, B5⟩
          case rest =>
            obtain ⟨g3, qq, cq, rfl, rfl, rfl, hlt3, HRW, HQ3, HBc⟩ := hcut
            have HT3 := Lib.hid (three_paths HRW.out (HPm.out.below HBc.out) HQ3.out (by omega) HP32.out hall.out)
            have HDc := Lib.hid (HDm.out.below HBc.out)
            have HBw := Lib.hid (HBm.out.trans (HBc.out.mono HBm.out.size))
            have HBQ := Lib.hid (HBq.out.trans (HBc.out.mono HBq.out.size))
            clear HRW HQ3 y0 x0 hdiv hwf hR8
            go_wp2_with fail
            go_loopw [86] (fun x wp => ∃ j : Nat, x = .int .i64 (j : Int) ∧ j ≤ 3 ∧ Hid (Below wc.heap.size wc wp)) (fun x _ => 3 - (intOf x).toNat)
            case atStart => exact ⟨0, rfl, by omega, Lib.hid (Below.refl _ _)⟩
            case round =>
              obtain ⟨j3, rfl, hj3, HBp⟩ := hrel
              by_cases hlt4 : j3 < 3
              · have c3 : (j3 : Int) < 3 := by omega
                obtain ⟨q, m, c, pth, hcell, hld, hp32⟩ := HT3.out j3 hlt4
                have z0 := (HBp.out.cell (p := ⟨g3, j3, none⟩) hlt3).trans hcell
                have HLp := Lib.hid (hld.below HBp.out)
                have HDp := Lib.hid (HDc.out.below HBp.out)
                have HKp := Lib.hid (HK.out.below (HBw.out.trans (HBp.out.mono HBw.out.size)))
                obtain ⟨r, e, hr32, hC1, hC2⟩ := climb_both d X Y pth HD32.out hp32
                have HC1 := Lib.hid hC1
                have HC2 := Lib.hid hC2
                have HR32 := Lib.hid hr32
                have hee : (e == e) = true := beq_self_eq_true e
                have heq : ∀ w, (Op.equalIn 10000 26 (dgv r) (dgv r)).run Tryd.prog w = .ok true w := fun w => by rw [dg_equal _ _ hr32 hr32, beq_self_eq_true]
                clear hC1 hC2 hr32 hld hcell hp32
                go_wp2_with (first
                  | (refine dg_load rfl (.tmp 7) rfl w.heap.size d HDp.out HD32.out rfl ?_)
                  | (go_at_call 22; refine (HC1.out _ wr HLp.out HKp.out).mono ?_; rintro en wa ⟨rfl, hba⟩; have HBa := Lib.hid hba; clear hba)
                  | (refine dg_store rfl (.tmp 20) (.tmp 96) rfl wa.heap.size zeros r (zeros32 wa) (by simp [zeros]) HR32.out rfl rfl ?_; rintro wb hdb hcb; have HBb := Lib.hid (HBa.out.trans ((chg_alloc_below hcb rfl).mono HBa.out.size)); have HDb := Lib.hid (HDp.out.below HBb.out); have HLb := Lib.hid (HLp.out.below HBb.out); clear hcb)
                  | (refine dg_load rfl (.tmp 7) rfl w.heap.size d HDb.out HD32.out rfl ?_)
                  | (go_at_call 23; refine (HC2.out _ wb HLb.out).mono ?_; rintro en wd ⟨rfl, hbd⟩; have HBd := Lib.hid (HBb.out.trans (hbd.mono HBb.out.size)); have HRd := Lib.hid (hdb.out.below hbd); clear hbd)
                  | (refine dg_store rfl (.tmp 22) (.tmp 104) rfl wd.heap.size zeros r (zeros32 wd) (by simp [zeros]) HR32.out rfl rfl ?_; rintro we hde hce; have hbe := chg_alloc_below hce rfl; have HBe := Lib.hid (HBd.out.trans (hbe.mono HBd.out.size)); have HRe := Lib.hid (HRd.out.below hbe); clear hce hbe)
                  | (refine dg_load rfl (.tmp 20) rfl wa.heap.size r HRe.out HR32.out rfl ?_)
                  | (refine dg_load rfl (.tmp 22) rfl wd.heap.size r hde.out HR32.out rfl ?_))
                go_roundw
                case rel => exact ⟨j3 + 1, by go_num, by omega, Lib.hid (HBp.out.trans (HBe.out.mono HBp.out.size))⟩
                case measure => simp [intOf]; omega
              · have c3 : ¬ (j3 : Int) < 3 := by omega
                go_wp2_with fail
                go_roundw
                case rel => exact ⟨j2 + 1, by go_num, by omega, Lib.hid (HBQ.out.trans (HBp.out.mono HBQ.out.size))⟩
                case measure => simp [intOf]; omega
        · have c2 : ¬ (j2 : Int) < 2 := by omega
          go_wp2_with fail
          go_roundw
          case rel => exact ⟨j + 1, by go_num, by omega, Lib.hid (HB.out.trans ((HB10.out.trans (HBq.out.mono HB10.out.size)).mono HB.out.size))⟩
          case measure => simp [intOf]; omega
    · have c1 : ¬ (j : Int) < 2 := by omega
      go_wp2_with fail
      go_ret
      exact ⟨rfl, HB5.out.trans (HB.out.mono HB5.out.size)⟩
end Go.Proofs.YtekboemijafplaaDoor
