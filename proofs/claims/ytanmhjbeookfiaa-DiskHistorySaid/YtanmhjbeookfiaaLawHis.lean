/-
  DiskHistory's own body: it returns true.
-/
import Derived.Test.YtanmhjbeookfiaaHsv
import Derived.Test.YtanmhjbeookfiaaLawNew
namespace Go.Proofs.Ytanmhjbeookfiaa
open Go Go.RowKit
theorem row_bv {w : World} {g : Nat} {c : UInt8} (h : Row w g (dbl c c)) : BV w (.slice (some ⟨g, 0, none⟩) 128 128) (dbl c c) := by
  have := h.bv (by rw [dbl_len]; unfold maxLen; omega)
  rwa [dbl_len] at this
theorem set_keep {w : World} {g o k p : Nat} {u v : Value} (h : g ≠ k) (hc : w.cell? ⟨g, o, none⟩ = some u) : (w.setCell ⟨k, p, none⟩ v).drew.cell? ⟨g, o, none⟩ = some u := by
  have : (w.setCell ⟨k, p, none⟩ v).heap[g]? = w.heap[g]? := Below.heap_setCell _ _ _ _ h
  show (w.setCell ⟨k, p, none⟩ v).cell? ⟨g, o, none⟩ = some u
  rw [World.cell?_of_block (w := w) (a := ⟨g, o, none⟩) this]
  exact hc
set_option maxRecDepth 100000 in
set_option maxHeartbeats 16000000 in
theorem lawHis (v : Value) (s : List Ac) (n : Int) (w : World) (hs : AV w v s) (hn : 0 ≤ n ∧ n ≤ 255) (hsane : ∀ w : World, Calls Try.prog 10 #[] w (Ret (.bool true) w)) :
    Calls Try.prog 6 #[v, .int .u8 n] w (Ret (.bool true) w) := by
  obtain ⟨left, rfl⟩ : ∃ left : Nat, n = (left : Int) := ⟨n.toNat, by omega⟩
  have hleft : left ≤ 255 := by omega
  clear hn
  obtain ⟨pa, ca, rfl, ha1, ha2⟩ := hs.shape
  have HSN := Lib.hid hsane
  have HAV := Lib.hid hs
  clear hs hsane
  generalize hL : s.length = L at *
  have HL := Lib.hid hL
  clear hL
  have HN : Hid (∀ W, Calls Try.prog 12 #[.int .i64 4] W (RetD (newD 4) 0 W)) := Lib.hid fun W => by
    have := new_any 4 W
    rwa [show newE 4 = 0 from rfl] at this
  have HST : Hid (∀ (u : Value) W, DV W u (newD 4) → Calls Try.prog 25 #[u, .int .i64 (left : Int)] W (RetD (hD (fun _ => 0) [] left) 0 W)) := Lib.hid fun u W hu => by
    have := stop_any u (newD 4) (left : Int) W hu
    rwa [(stop_h left (by omega)).1, (stop_h left (by omega)).2] at this
  have hwrap : IntKind.i64.wrap (left : Int) = (left : Int) := by unfold IntKind.wrap; rw [show IntKind.i64.bits = 64 from rfl]; simp; omega
  generalize newD 4 = D0 at HN HST
  go_enter Try.func6, Try.ntmps6
  go_wp2_with fail
  refine (HSN.out _).mono ?_
  rintro e w1 ⟨rfl, hbe1⟩
  have HB1 := Lib.hid hbe1
  clear hbe1
  by_cases hL40 : 40 < L
  · have q : decide ((40 : Int) < (L : Int)) = true := decide_eq_true (by omega)
    go_wp2_with fail
    go_ret
    exact ⟨rfl, HB1.out⟩
  have q40 : decide ((40 : Int) < (L : Int)) = false := decide_eq_false (by omega)
  have hL40' : L ≤ 40 := by omega
  clear hL40
  go_wp2_with fail
  refine (HN.out _).mono ?_
  rintro e w2 ⟨v2, rfl, hdv2, hbe2⟩
  obtain ⟨ps2, N2, cs2, pp2, M2, cp2, rfl, HO2, hs21, hs22, hp21, hp22⟩ := hdv2.op
  have HB2 := Lib.hid (HB1.out.trans (hbe2.mono HB1.out.size))
  clear hbe2 HN
  go_wp2_with fail
  refine (HST.out _ _ (HO2.out.below (one_new _ _)).dv).mono ?_
  rintro e w3 ⟨v3, rfl, hdv3, hbe3⟩
  obtain ⟨ps3, N3, cs3, pp3, M3, cp3, rfl, HO3, hs31, hs32, hp31, hp32⟩ := hdv3.op
  have HR3 : Hid (w3.heap[w2.heap.size]? = drow (.slice ps2 N2 cs2) (.slice pp2 M2 cp2) D0) := Lib.hid ((hbe3.block w2.heap.size (by simp)).trans (heap_alloc_new _ _))
  have HBE := Lib.hid (one_later hbe3)
  clear hbe3 HST hdv3
  go_wp2_with (refine dk_store rfl (.tmp 5) (.tmp 35) rfl w2.heap.size _ _ _ _ _ HR3.out rfl rfl rfl ⟨rfl, rfl, rfl, rfl⟩ ?_; rintro we re hce)
  have h5 : BD we w2.heap.size (hD (fun _ => 0) [] left) := by
    have := (BD.stored (R := w2.heap.size) (O := D0) ⟨_, _, HR3.out, (HO2.out.below HBE.out).dv⟩ re.out HO3.out.dv (secs_all (fun _ => 0) (fun _ => 0)) hce)
    exact this
  have hbe : Below w.heap.size w we := Chg.below (HB2.out.trans (HBE.out.mono HB2.out.size)) (HB2.out.trans (HBE.out.mono HB2.out.size)).size HB2.out.size hce
  obtain ⟨W0, hW0, hm0, hHS⟩ := hs_start hbe h5 (secs_all (fun _ => 0) (fun _ => 0)) (fun x hx => by simp [hD, wsH] at hx)
  have hBB : HB w (we.heap.size + 3) w2.heap.size we.heap.size (we.heap.size + 1) (we.heap.size + 1 + 1) := by
    have a1 := HB2.out.size
    have a2 := h5.lt
    refine ⟨?_, ?_, ?_, ?_, ?_, ?_, ?_, ?_, ?_, ?_, ?_, ?_, ?_, ?_⟩ <;> omega
  have HBB := Lib.hid hBB
  have HHS := Lib.hid hHS
  clear hBB hHS h5 hbe hce re HR3 HBE HO3 HO2 HB2 hdv2 HB1
  simp only [zarr] at hW0
  rw [hW0]
  clear hW0
  generalize we.heap.size + 3 = m at *
  generalize we.heap.size = b8 at *
  generalize hb9 : b8 + 1 = b9 at *
  generalize hb10 : b9 + 1 = b10 at *
  generalize w2.heap.size = b5 at *
  go_loopw [11, 12, 13] (fun vq rm x wr => ∃ (i room : Nat) (F : Nat → UInt8) (q : List Ac), x = .int .i64 i ∧ rm = .int .i64 room ∧ i ≤ L ∧ q.length ≤ i ∧ room ≤ 255 ∧ m ≤ wr.heap.size ∧ Hid (HS w m b5 b8 b9 b10 wr (hD F q room) (lastF F q) F F vq q)) (fun _ _ x _ => L - (intOf x).toNat)
  case atStart => exact ⟨0, left, fun _ => 0, [], rfl, rfl, Nat.zero_le _, Nat.le_refl _, hleft, hm0, HHS⟩
  case round =>
    obtain ⟨i, room, F, q, rfl, rfl, hiL, hqi, hroom, hmw, HHS⟩ := hrel
    obtain ⟨pq, cq, rfl, hq1, hq2⟩ := HHS.out.shape
    by_cases hlt : i < L
    · have hlti : (i : Int) < (L : Int) := by omega
      obtain ⟨c, hc⟩ : ∃ c, s[i]? = some c := ⟨_, List.getElem?_eq_getElem (by rw [HL.out]; exact hlt)⟩
      obtain ⟨b, o, rfl, hb, q0, q1, q2⟩ := (HAV.out.below HHS.out.bel).at hc
      have q1' : wr.cell? ⟨b, o + i * 3 + 1, none⟩ = some (.int .u8 (c.a.toNat : Int)) := q1
      have q2' : wr.cell? ⟨b, o + i * 3 + 2, none⟩ = some (.int .u8 (c.b.toNat : Int)) := q2
      clear q1 q2
      obtain ⟨psx, Nx, csx, ppx, Mx, cpx, hrx, HOX, hx1, hx2, hx3, hx4⟩ := HHS.out.bd.open
      obtain ⟨x0, x1, x2, x3, _⟩ := row_cells hrx
      have hxl := HHS.out.bd.lt
      have hy : c.y = false ∨ c.y = true := by cases c.y <;> simp
      rcases hy with hy | hy
      · rw [hy] at q0
        go_upto_region 17 with fail
        have hk4 : c.a.toNat % 4 < 4 := Nat.mod_lt _ (by omega)
        have htm : (c.a.toNat : Int).tmod 4 = ((c.a.toNat % 4 : Nat) : Int) := (Int.ofNat_tmod _ 4).symm
        obtain ⟨hwe, hwd⟩ := h_write F (q := q) (by omega) (room := room) (by omega) c
        have HW : Hid (∀ (W : World) (bv : Value), Below wr.heap.size wr W → BV W bv (dbl c.b c.b) → Calls Try.prog 19 #[dval (hD F q room) psx Nx csx ppx Mx cpx, .int .i64 ((c.a.toNat % 4 : Nat) : Int), bv] W (RetD (hD F (q ++ [c]) room) 0 W)) := Lib.hid fun W bv hB hb => by
          have := write_any _ _ ((c.a.toNat % 4 : Nat) : Int) bv _ W (HOX.out.below hB).dv hb (by unfold W64; omega)
          rwa [hwe, hwd] at this
        have HZV : Hid ((hD F (q ++ [c]) room).s.all secB = true) := Lib.hid (secs_all F F)
        have HZP : Hid (∀ x ∈ (hD F (q ++ [c]) room).p, x.2.length = 128) := Lib.hid (fun x hx => by
          obtain ⟨y, _, rfl⟩ := List.mem_map.1 hx
          exact dbl_len _ _)
        have HLF := Lib.hid (lastF_snoc F q c)
        clear hwe hwd
        have HZE : Hid (hD F (q ++ [c]) room = hD F (q ++ [c]) room) := Lib.hid rfl
        generalize hD F q room = X at *
        generalize hZ : hD F (q ++ [c]) room = Z at *
        have HZQ := Lib.hid hZ
        clear hZ HZE
        have hw1 : IntKind.u8.wrap ((c.a.toNat % 4 : Nat) : Int) = ((c.a.toNat % 4 : Nat) : Int) := by unfold IntKind.wrap; rw [show IntKind.u8.bits = 8 from rfl]; simp; omega
        have hw2 : IntKind.i64.wrap ((c.a.toNat % 4 : Nat) : Int) = ((c.a.toNat % 4 : Nat) : Int) := by unfold IntKind.wrap; rw [show IntKind.i64.bits = 64 from rfl]; simp; omega
        generalize hk : c.a.toNat % 4 = k at *
        have HK := Lib.hid hk
        clear hk
        have hwrk : wr.heap.size < wr.heap.size + 1 := Nat.lt_succ_self _
        obtain ⟨kb, hkb⟩ : ∃ kb, wr.heap.size = kb := ⟨_, rfl⟩
        generalize hW1 : wr.alloc (.cells #[.bool false, .int .u8 (c.a.toNat : Int), .int .u8 (c.b.toNat : Int)] 46) = W1
        have hB1 : Below wr.heap.size wr W1 := by rw [← hW1]; exact one_new _ _
        have hkr : W1.heap[kb]? = some (.cells #[.bool false, .int .u8 (c.a.toNat : Int), .int .u8 (c.b.toNat : Int)] 46) := by rw [← hW1, ← hkb]; exact heap_alloc_new _ _
        have k0 : W1.cell? ⟨kb, 0, none⟩ = some (.bool false) := by simp [World.cell?, hkr]
        have k1 : W1.cell? ⟨kb, 1, none⟩ = some (.int .u8 (c.a.toNat : Int)) := by simp [World.cell?, hkr]
        have k2 : W1.cell? ⟨kb, 2, none⟩ = some (.int .u8 (c.b.toNat : Int)) := by simp [World.cell?, hkr]
        have hkl : kb < W1.heap.size := (Array.getElem?_eq_some_iff.1 hkr).1
        have HW1 : Hid (∀ (W : World) (bv : Value), Below W1.heap.size W1 W → BV W bv (dbl c.b c.b) → Calls Try.prog 19 #[dval X psx Nx csx ppx Mx cpx, .int .i64 (k : Int), bv] W (RetD Z 0 W)) := Lib.hid fun W bv hB hb => HW.out W bv (hB1.trans (hB.mono hB1.size)) hb
        have x0 := (bcells hB1 hxl 0).trans x0
        have x1 := (bcells hB1 hxl 1).trans x1
        have x2 := (bcells hB1 hxl 2).trans x2
        have x3 := (bcells hB1 hxl 3).trans x3
        have hxl1 : b5 < W1.heap.size := Nat.lt_of_lt_of_le hxl hB1.size
        have HHS1 := Lib.hid (HHS.out.below hB1)
        have hmw1 : m ≤ W1.heap.size := Nat.le_trans hmw hB1.size
        have HKR := Lib.hid hkr
        clear hB1 hW1 hkr hrx q0 q1' q2' HW hc hwrk
        rename Hid (∀ (W : World) (bv : Value), Below W1.heap.size W1 W → BV W bv (dbl c.b c.b) → Calls Try.prog 19 #[dval X psx Nx csx ppx Mx cpx, .int .i64 (k : Int), bv] W (RetD Z 0 W)) => HW
        rw [hkb]
        go_cut [15, 16] from 59 to 70 (fun s15 s16 wc => ∃ zb : Nat, s15 = .pointer (some ⟨zb, 0, none⟩) ∧ s16 = .int .i64 0 ∧ W1.heap.size ≤ zb ∧ Hid (BD wc zb Z) ∧ Hid (Below W1.heap.size W1 wc))
        case first =>
          refine wp_region_held_drew (S := fun w' => Below W1.heap.size W1 w') (by kernel_rfl) (drew_below (Below.refl _ _)) (fun hHeld => ?_)
          have B0 := Lib.hid hHeld
          refine take_at (i := 0) (k := 60) (v := dval X psx Nx csx ppx Mx cpx) rfl rfl (by kernel_rfl) (by kernel_rfl) (by kernel_rfl) (fun _ _ _ h => h) (Or.inl ⟨by rfl, fun w' h => by have a0 := (bcells h hxl1 0).trans x0; have a1 := (bcells h hxl1 1).trans x1; have a2 := (bcells h hxl1 2).trans x2; have a3 := (bcells h hxl1 3).trans x3; go_simp⟩) hHeld ?_
          try simp only [Act.put, List.setIfInBounds_toArray, List.set_cons_zero, List.set_cons_succ]
          refine take_at (i := 1) (k := 61) (v := .pointer (some ⟨kb, 1, none⟩)) rfl rfl (by kernel_rfl) (by kernel_rfl) (by kernel_rfl) (fun _ _ _ h => h) (Or.inl ⟨by rfl, fun w _ => by go_simp⟩) hHeld ?_
          try simp only [Act.put, List.setIfInBounds_toArray, List.set_cons_zero, List.set_cons_succ]
          refine take_at (i := 2) (k := 62) (v := .int .u8 (c.a.toNat : Int)) rfl rfl (by kernel_rfl) (by kernel_rfl) (by kernel_rfl) (fun _ _ _ h => h) (Or.inl ⟨by rfl, fun w' h => by have a0 := (bcells h hkl 1).trans k1; go_simp⟩) hHeld ?_
          try simp only [Act.put, List.setIfInBounds_toArray, List.set_cons_zero, List.set_cons_succ]
          refine take_at (i := 3) (k := 63) (v := .int .u8 (k : Int)) rfl rfl (by kernel_rfl) (by kernel_rfl) (by kernel_rfl) (fun _ _ _ h => h) (Or.inl ⟨by rfl, fun w _ => by go_simp⟩) hHeld ?_
          try simp only [Act.put, List.setIfInBounds_toArray, List.set_cons_zero, List.set_cons_succ]
          refine take_at (i := 4) (k := 64) (v := .int .i64 (k : Int)) rfl rfl (by kernel_rfl) (by kernel_rfl) (by kernel_rfl) (fun _ _ _ h => h) (Or.inl ⟨by rfl, fun w _ => by go_simp⟩) hHeld ?_
          try simp only [Act.put, List.setIfInBounds_toArray, List.set_cons_zero, List.set_cons_succ]
          refine take_at (i := 5) (k := 65) (v := .pointer (some ⟨kb, 2, none⟩)) rfl rfl (by kernel_rfl) (by kernel_rfl) (by kernel_rfl) (fun _ _ _ h => h) (Or.inl ⟨by rfl, fun w _ => by go_simp⟩) hHeld ?_
          try simp only [Act.put, List.setIfInBounds_toArray, List.set_cons_zero, List.set_cons_succ]
          refine take_at (i := 6) (k := 66) (v := .int .u8 (c.b.toNat : Int)) rfl rfl (by kernel_rfl) (by kernel_rfl) (by kernel_rfl) (fun _ _ _ h => h) (Or.inl ⟨by rfl, fun w' h => by have a0 := (bcells h hkl 2).trans k2; go_simp⟩) hHeld ?_
          try simp only [Act.put, List.setIfInBounds_toArray, List.set_cons_zero, List.set_cons_succ]
          clear hHeld
          refine wpAnyH_ready (rs := [7, 12]) (by kernel_rfl) (by simp) ?_
          refine AllReadyH.cons rfl (fun K hK => ?_) (AllReadyH.cons rfl (fun K hK => ?_) AllReadyH.nil)
          · rw [if_pos (by rfl)]
            go_simp
            go_at_call 27
            refine (double_any c.b _).mono ?_
            rintro e U1 ⟨g1, rfl, hg1, hrow1, hbe1⟩
            have B1 := Lib.hid (B0.out.trans (hbe1.mono B0.out.size))
            have BVB := Lib.hid (row_bv hrow1)
            clear hbe1 hrow1
            refine hK.out _ _ B1.out (fun hHeld => ?_)
            try simp only [Act.put, List.setIfInBounds_toArray, List.set_cons_zero, List.set_cons_succ]
            clear hK K
            clear hHeld
            refine wpAnyH_ready (rs := [8, 12]) (by kernel_rfl) (by simp) ?_
            refine AllReadyH.cons rfl (fun K hK => ?_) (AllReadyH.cons rfl (fun K hK => ?_) AllReadyH.nil)
            · rw [if_pos (by rfl)]
              go_simp
              go_at_call 19
              refine (HW.out _ _ B1.out BVB.out).mono ?_
              rintro e U2 ⟨vz, rfl, hdz, hbe2⟩
              obtain ⟨ps9, N9, cs9, pp9, M9, cp9, rfl, HO9, _, _, _, _⟩ := hdz.op
              have B2 := Lib.hid (B1.out.trans (hbe2.mono B1.out.size))
              have HDZ := Lib.hid hdz
              clear hbe2 hdz
              refine hK.out _ _ B2.out (fun hHeld => ?_)
              try simp only [Act.put, List.setIfInBounds_toArray, List.set_cons_zero, List.set_cons_succ]
              clear hK K
              refine take_at (i := 9) (k := 59) (v := .tuple #[dval Z ps9 N9 cs9 pp9 M9 cp9, .int .i64 0]) rfl rfl (by kernel_rfl) (by kernel_rfl) (by kernel_rfl) (fun _ _ _ h => h) (Or.inl ⟨by rfl, fun w _ => by go_simp⟩) hHeld ?_
              try simp only [Act.put, List.setIfInBounds_toArray, List.set_cons_zero, List.set_cons_succ]
              refine take_at (i := 10) (k := 69) (v := dval Z ps9 N9 cs9 pp9 M9 cp9) rfl rfl (by kernel_rfl) (by kernel_rfl) (by kernel_rfl) (fun _ _ _ h => h) (Or.inl ⟨by rfl, fun w _ => by go_simp⟩) hHeld ?_
              try simp only [Act.put, List.setIfInBounds_toArray, List.set_cons_zero, List.set_cons_succ]
              refine take_at (i := 11) (k := 70) (v := .int .i64 0) rfl rfl (by kernel_rfl) (by kernel_rfl) (by kernel_rfl) (fun _ _ _ h => h) (Or.inl ⟨by rfl, fun w _ => by go_simp⟩) hHeld ?_
              try simp only [Act.put, List.setIfInBounds_toArray, List.set_cons_zero, List.set_cons_succ]
              clear hHeld
              refine wpAnyH_ready (rs := [12]) (by kernel_rfl) (by simp) ?_
              refine AllReadyH.cons rfl (fun K hK => ?_) AllReadyH.nil
              rw [if_pos (by rfl)]
              refine wp_al25 rfl rfl ?_
              intro U3 zb huU3 hx1 hx2 ZR3
              have B3 := Lib.hid (B2.out.trans (huU3.mono B2.out.size))
              have hzb : W1.heap.size ≤ zb := Nat.le_trans B2.out.size hx1
              have HDY := Lib.hid (HDZ.out.below huU3)
              clear huU3
              refine hK.out _ _ B3.out (fun hHeld => ?_)
              try simp only [Act.put, List.setIfInBounds_toArray, List.set_cons_zero, List.set_cons_succ]
              clear hK K
              clear hHeld
              refine wpAnyH_ready (rs := [13]) (by kernel_rfl) (by simp) ?_
              refine AllReadyH.cons rfl (fun K hK => ?_) AllReadyH.nil
              rw [if_pos (by rfl)]
              refine wp_st25 (.tmp 15) (.tmp 69) rfl rfl zb _ _ _ _ _ rfl rfl ZR3.out rfl ⟨rfl, rfl, rfl, rfl⟩ ?_
              intro U9 hX9 hch
              have F1 : Hid (BD U9 zb Z) := Lib.hid ((BD.zero ZR3.out).stored hX9.out HDY.out HZV.out hch)
              have F4 : Hid (Below W1.heap.size W1 U9) := Lib.hid (Chg.below B3.out B3.out.size hzb hch)
              refine hK.out _ _ F4.out (fun hHeld => ?_)
              try simp only [Act.put, List.setIfInBounds_toArray, List.set_cons_zero, List.set_cons_succ]
              clear hK K
              refine take_at (i := 14) (k := 16) (v := .int .i64 0) rfl rfl (by kernel_rfl) (by kernel_rfl) (by kernel_rfl) (fun _ _ _ h => h) (Or.inl ⟨by rfl, fun w _ => by go_simp⟩) hHeld ?_
              try simp only [Act.put, List.setIfInBounds_toArray, List.set_cons_zero, List.set_cons_succ]
              clear hHeld
              refine wpAnyH_done (by kernel_rfl) ?_ _
              go_wp2_with fail
              go_meet
              case rel => exact ⟨zb, rfl, rfl, hzb, F1, F4⟩
            · rw [if_pos (by rfl)]
              refine wp_al25 rfl rfl ?_
              intro U2 zb huU2 hx1 hx2 ZR2
              have B2 := Lib.hid (B1.out.trans (huU2.mono B1.out.size))
              have hzb : W1.heap.size ≤ zb := Nat.le_trans B1.out.size hx1
              have BVC := Lib.hid (BVB.out.below huU2)
              clear huU2
              refine hK.out _ _ B2.out (fun hHeld => ?_)
              try simp only [Act.put, List.setIfInBounds_toArray, List.set_cons_zero, List.set_cons_succ]
              clear hK K
              clear hHeld
              refine wpAnyH_ready (rs := [8]) (by kernel_rfl) (by simp) ?_
              refine AllReadyH.cons rfl (fun K hK => ?_) AllReadyH.nil
              rw [if_pos (by rfl)]
              go_simp
              go_at_call 19
              refine (HW.out _ _ B2.out BVC.out).mono ?_
              rintro e U3 ⟨vz, rfl, hdz, hbe3⟩
              obtain ⟨ps9, N9, cs9, pp9, M9, cp9, rfl, HO9, _, _, _, _⟩ := hdz.op
              have B3 := Lib.hid (B2.out.trans (hbe3.mono B2.out.size))
              have HDZ := Lib.hid hdz
              have ZR3 := Lib.hid ((hbe3.block zb hx2).trans ZR2.out)
              clear hbe3 hdz
              refine hK.out _ _ B3.out (fun hHeld => ?_)
              try simp only [Act.put, List.setIfInBounds_toArray, List.set_cons_zero, List.set_cons_succ]
              clear hK K
              refine take_at (i := 9) (k := 59) (v := .tuple #[dval Z ps9 N9 cs9 pp9 M9 cp9, .int .i64 0]) rfl rfl (by kernel_rfl) (by kernel_rfl) (by kernel_rfl) (fun _ _ _ h => h) (Or.inl ⟨by rfl, fun w _ => by go_simp⟩) hHeld ?_
              try simp only [Act.put, List.setIfInBounds_toArray, List.set_cons_zero, List.set_cons_succ]
              refine take_at (i := 10) (k := 69) (v := dval Z ps9 N9 cs9 pp9 M9 cp9) rfl rfl (by kernel_rfl) (by kernel_rfl) (by kernel_rfl) (fun _ _ _ h => h) (Or.inl ⟨by rfl, fun w _ => by go_simp⟩) hHeld ?_
              try simp only [Act.put, List.setIfInBounds_toArray, List.set_cons_zero, List.set_cons_succ]
              refine take_at (i := 11) (k := 70) (v := .int .i64 0) rfl rfl (by kernel_rfl) (by kernel_rfl) (by kernel_rfl) (fun _ _ _ h => h) (Or.inl ⟨by rfl, fun w _ => by go_simp⟩) hHeld ?_
              try simp only [Act.put, List.setIfInBounds_toArray, List.set_cons_zero, List.set_cons_succ]
              clear hHeld
              refine wpAnyH_ready (rs := [13]) (by kernel_rfl) (by simp) ?_
              refine AllReadyH.cons rfl (fun K hK => ?_) AllReadyH.nil
              rw [if_pos (by rfl)]
              refine wp_st25 (.tmp 15) (.tmp 69) rfl rfl zb _ _ _ _ _ rfl rfl ZR3.out rfl ⟨rfl, rfl, rfl, rfl⟩ ?_
              intro U9 hX9 hch
              have F1 : Hid (BD U9 zb Z) := Lib.hid ((BD.zero ZR3.out).stored hX9.out HDZ.out HZV.out hch)
              have F4 : Hid (Below W1.heap.size W1 U9) := Lib.hid (Chg.below B3.out B3.out.size hzb hch)
              refine hK.out _ _ F4.out (fun hHeld => ?_)
              try simp only [Act.put, List.setIfInBounds_toArray, List.set_cons_zero, List.set_cons_succ]
              clear hK K
              refine take_at (i := 14) (k := 16) (v := .int .i64 0) rfl rfl (by kernel_rfl) (by kernel_rfl) (by kernel_rfl) (fun _ _ _ h => h) (Or.inl ⟨by rfl, fun w _ => by go_simp⟩) hHeld ?_
              try simp only [Act.put, List.setIfInBounds_toArray, List.set_cons_zero, List.set_cons_succ]
              clear hHeld
              refine wpAnyH_done (by kernel_rfl) ?_ _
              go_wp2_with fail
              go_meet
              case rel => exact ⟨zb, rfl, rfl, hzb, F1, F4⟩
          · rw [if_pos (by rfl)]
            refine wp_al25 rfl rfl ?_
            intro U1 zb huU1 hx1 hx2 ZR1
            have B1 := Lib.hid (B0.out.trans (huU1.mono B0.out.size))
            have hzb : W1.heap.size ≤ zb := Nat.le_trans B0.out.size hx1
            clear huU1
            refine hK.out _ _ B1.out (fun hHeld => ?_)
            try simp only [Act.put, List.setIfInBounds_toArray, List.set_cons_zero, List.set_cons_succ]
            clear hK K
            clear hHeld
            refine wpAnyH_ready (rs := [7]) (by kernel_rfl) (by simp) ?_
            refine AllReadyH.cons rfl (fun K hK => ?_) AllReadyH.nil
            rw [if_pos (by rfl)]
            go_simp
            go_at_call 27
            refine (double_any c.b _).mono ?_
            rintro e U2 ⟨g2, rfl, hg2, hrow2, hbe2⟩
            have B2 := Lib.hid (B1.out.trans (hbe2.mono B1.out.size))
            have BVB := Lib.hid (row_bv hrow2)
            have ZR2 := Lib.hid ((hbe2.block zb hx2).trans ZR1.out)
            have hzl2 : zb < U2.heap.size := Nat.lt_of_lt_of_le hx2 hbe2.size
            clear hbe2 hrow2
            refine hK.out _ _ B2.out (fun hHeld => ?_)
            try simp only [Act.put, List.setIfInBounds_toArray, List.set_cons_zero, List.set_cons_succ]
            clear hK K
            clear hHeld
            refine wpAnyH_ready (rs := [8]) (by kernel_rfl) (by simp) ?_
            refine AllReadyH.cons rfl (fun K hK => ?_) AllReadyH.nil
            rw [if_pos (by rfl)]
            go_simp
            go_at_call 19
            refine (HW.out _ _ B2.out BVB.out).mono ?_
            rintro e U3 ⟨vz, rfl, hdz, hbe3⟩
            obtain ⟨ps9, N9, cs9, pp9, M9, cp9, rfl, HO9, _, _, _, _⟩ := hdz.op
            have B3 := Lib.hid (B2.out.trans (hbe3.mono B2.out.size))
            have HDZ := Lib.hid hdz
            have ZR3 := Lib.hid ((hbe3.block zb hzl2).trans ZR2.out)
            clear hbe3 hdz
            refine hK.out _ _ B3.out (fun hHeld => ?_)
            try simp only [Act.put, List.setIfInBounds_toArray, List.set_cons_zero, List.set_cons_succ]
            clear hK K
            refine take_at (i := 9) (k := 59) (v := .tuple #[dval Z ps9 N9 cs9 pp9 M9 cp9, .int .i64 0]) rfl rfl (by kernel_rfl) (by kernel_rfl) (by kernel_rfl) (fun _ _ _ h => h) (Or.inl ⟨by rfl, fun w _ => by go_simp⟩) hHeld ?_
            try simp only [Act.put, List.setIfInBounds_toArray, List.set_cons_zero, List.set_cons_succ]
            refine take_at (i := 10) (k := 69) (v := dval Z ps9 N9 cs9 pp9 M9 cp9) rfl rfl (by kernel_rfl) (by kernel_rfl) (by kernel_rfl) (fun _ _ _ h => h) (Or.inl ⟨by rfl, fun w _ => by go_simp⟩) hHeld ?_
            try simp only [Act.put, List.setIfInBounds_toArray, List.set_cons_zero, List.set_cons_succ]
            refine take_at (i := 11) (k := 70) (v := .int .i64 0) rfl rfl (by kernel_rfl) (by kernel_rfl) (by kernel_rfl) (fun _ _ _ h => h) (Or.inl ⟨by rfl, fun w _ => by go_simp⟩) hHeld ?_
            try simp only [Act.put, List.setIfInBounds_toArray, List.set_cons_zero, List.set_cons_succ]
            clear hHeld
            refine wpAnyH_ready (rs := [13]) (by kernel_rfl) (by simp) ?_
            refine AllReadyH.cons rfl (fun K hK => ?_) AllReadyH.nil
            rw [if_pos (by rfl)]
            refine wp_st25 (.tmp 15) (.tmp 69) rfl rfl zb _ _ _ _ _ rfl rfl ZR3.out rfl ⟨rfl, rfl, rfl, rfl⟩ ?_
            intro U9 hX9 hch
            have F1 : Hid (BD U9 zb Z) := Lib.hid ((BD.zero ZR3.out).stored hX9.out HDZ.out HZV.out hch)
            have F4 : Hid (Below W1.heap.size W1 U9) := Lib.hid (Chg.below B3.out B3.out.size hzb hch)
            refine hK.out _ _ F4.out (fun hHeld => ?_)
            try simp only [Act.put, List.setIfInBounds_toArray, List.set_cons_zero, List.set_cons_succ]
            clear hK K
            refine take_at (i := 14) (k := 16) (v := .int .i64 0) rfl rfl (by kernel_rfl) (by kernel_rfl) (by kernel_rfl) (fun _ _ _ h => h) (Or.inl ⟨by rfl, fun w _ => by go_simp⟩) hHeld ?_
            try simp only [Act.put, List.setIfInBounds_toArray, List.set_cons_zero, List.set_cons_succ]
            clear hHeld
            refine wpAnyH_done (by kernel_rfl) ?_ _
            go_wp2_with fail
            go_meet
            case rel => exact ⟨zb, rfl, rfl, hzb, F1, F4⟩
        case rest =>
          obtain ⟨zb, rfl, rfl, hzb, HZ2, HBc2⟩ := hcut
          obtain ⟨psz, Nz, csz, ppz, Mz, cpz, hrz, HOZ, hz1', hz2', hz3', hz4'⟩ := HZ2.out.open
          obtain ⟨z0, z1, z2, z3, _⟩ := row_cells hrz
          have HH2 := Lib.hid (HHS1.out.below HBc2.out)
          obtain ⟨v0, v1, hrx2, hdx2⟩ := HH2.out.bd
          have HRX := Lib.hid hrx2
          have HKR2 := Lib.hid ((HBc2.out.block kb hkl).trans HKR.out)
          have hmw2 : m ≤ wc.heap.size := Nat.le_trans hmw1 HBc2.out.size
          clear hrx2 hdx2 x0 x1 x2 x3 k0 k1 k2
          go_upto_region 21 with (refine dk_store rfl (.tmp 5) (.tmp 73) rfl b5 _ _ _ _ _ HRX.out rfl rfl rfl ⟨rfl, rfl, rfl, rfl⟩ ?_; rintro we re hce)
          have HH3 := Lib.hid (HH2.out.dk HBB.out re.out HOZ.out.dv HZV.out HZP.out hce)
          have hkm : m ≤ kb := by omega
          have hkr3 := (hce.block kb (Array.getElem?_eq_some_iff.1 HKR2.out).1 (by have := HBB.out.m5; omega)).trans HKR2.out
          have HKR3 := Lib.hid hkr3
          have hmw3 : m ≤ we.heap.size := Nat.le_trans hmw2 hce.size
          have k1 : we.cell? ⟨kb, 1, none⟩ = some (.int .u8 (c.a.toNat : Int)) := by simp [World.cell?, hkr3]
          have k2 : we.cell? ⟨kb, 2, none⟩ = some (.int .u8 (c.b.toNat : Int)) := by simp [World.cell?, hkr3]
          have l1 := arow_at HH3.out.hl hk4
          have l2 : we.frozen? ⟨b8, k, none⟩ = false := (row4c HH3.out.hl).2.2.2.2 k
          have hki : (k : Int) < 4 := by omega
          clear hkr3 hce re HKR2 HRX HKR z0 z1 z2 z3
          go_upto_region 22 with fail
          have HH4 := Lib.hid (HH3.out.setL HBB.out hk4 c.b)
          have hkr4 : (we.setCell ⟨b8, k, none⟩ (.int .u8 (c.b.toNat : Int))).heap[kb]? = some (.cells #[.bool false, .int .u8 (c.a.toNat : Int), .int .u8 (c.b.toNat : Int)] 46) := by
            rw [Below.heap_setCell _ _ _ _ (show kb ≠ b8 by have := HBB.out.m8; omega)]
            exact HKR3.out
          have hmw4 : m ≤ (we.setCell ⟨b8, k, none⟩ (.int .u8 (c.b.toNat : Int))).heap.size := by simpa using hmw3
          generalize we.setCell ⟨b8, k, none⟩ (.int .u8 (c.b.toNat : Int)) = W4 at *
          have k0 : W4.cell? ⟨kb, 0, none⟩ = some (.bool false) := by simp [World.cell?, hkr4]
          have k1 : W4.cell? ⟨kb, 1, none⟩ = some (.int .u8 (c.a.toNat : Int)) := by simp [World.cell?, hkr4]
          have k2 : W4.cell? ⟨kb, 2, none⟩ = some (.int .u8 (c.b.toNat : Int)) := by simp [World.cell?, hkr4]
          have hca : (⟨false, c.a, c.b⟩ : Ac) = c := by cases c; simp only at hy; rw [← hy]
          have HA := Lib.hid (HH4.out.below (one_new W4 (.cells #[.bool false, .int .u8 (c.a.toNat : Int), .int .u8 (c.b.toNat : Int)] 46)))
          have hsr : Src Try.prog 3 43 (.slice (some ⟨W4.heap.size, 0, none⟩) 1 1) 1 (ac3 ⟨false, c.a, c.b⟩) (W4.alloc (.cells #[.bool false, .int .u8 (c.a.toNat : Int), .int .u8 (c.b.toNat : Int)] 46)) := src_act (heap_alloc_new _ _)
          rw [hca] at hsr
          have HSR := Lib.hid hsr
          have hq4 : q.length + 1 ≤ 4096 := by omega
          clear hkr4 hsr
          go_upto_region 38 with (at_builtin; refine wpList_app rfl (.tmp 80) (.tmp 82) rfl _ _ q c rfl rfl HA.out.own HA.out.pat HSR.out hq4 ?_; intro v5 W5 HO5 HG5 HN5 HP5)
          have hh5 := HA.out.app HBB.out (Nat.le_trans hmw4 (one_new W4 _).size) HO5.out HG5.out HN5.out HP5.out
          rw [← HLF.out] at hh5
          have HH5 := Lib.hid hh5
          have hmw5 : m ≤ W5.heap.size := Nat.le_trans (Nat.le_trans hmw4 (one_new W4 _).size) HG5.out.size
          have HHO : Hid (∀ (u : Value) W, DV W u Z → Calls Try.prog 28 #[u, arr (lastF F (q ++ [c])), arr (lastF F (q ++ [c]))] W (Ret (.bool true) W)) := Lib.hid fun u W hu => holds_true u Z _ _ W hu (by
            rw [← HZQ.out]
            intro j hj
            exact h_read F (by simp; omega) (by omega) j hj)
          obtain ⟨psy, Ny, csy, ppy, My, cpy, hry, HOY, hy1', hy2', hy3', hy4'⟩ := HH5.out.bd.open
          obtain ⟨y0, y1, y2, y3, _⟩ := row_cells hry
          obtain ⟨l0, l1, l2, l3, _⟩ := row4c HH5.out.hl
          clear hh5 hry HA HSR k0 k1 k2 HH4 HO5 HG5 HN5 HP5
          generalize hG : lastF F (q ++ [c]) = G at *
          have HGE := Lib.hid hG
          clear hG
          go_wp2_with fail
          refine (HHO.out _ _ HOY.out.dv).mono ?_
          rintro e W6 ⟨rfl, hbe6⟩
          have HH6 := Lib.hid (HH5.out.below hbe6)
          have hmw6 : m ≤ W6.heap.size := Nat.le_trans hmw5 hbe6.size
          clear hbe6 y0 y1 y2 y3 l0 l1 l2 l3
          go_wp2_with fail
          go_roundw
          case rel => exact ⟨i + 1, room, F, q ++ [c], by go_num, rfl, hlt, by simp; omega, hroom, hmw6, by rw [HZQ.out, HGE.out]; exact HH6⟩
          case measure => simp [intOf]; omega
      · rw [hy] at q0
        have hq4 : q.length ≤ 4096 := by omega
        have HCASE : Hid ((q.length ≤ room ∧ syncD (hD F q room) = hD (lastF F q) [] (room - q.length) ∧ syncE (hD F q room) = 0) ∨ (room < q.length ∧ syncE (hD F q room) = 40 ∧ (syncD (hD F q room)).s = secs (lastF F (q.take (room + 1))) (lastF F (q.take room)) ∧ (syncD (hD F q room)).st = true ∧ (syncD (hD F q room)).p = [])) := Lib.hid (by
          by_cases h : q.length ≤ room
          · exact .inl ⟨h, h_full F hq4 (by omega) h⟩
          · exact .inr ⟨by omega, h_torn F hq4 (by omega) (by omega)⟩)
        have HSY : Hid (∀ (u : Value) W, DV W u (hD F q room) → Calls Try.prog 23 #[u] W (RetD (syncD (hD F q room)) (syncE (hD F q room)) W)) := Lib.hid fun u W hu => sync_any u _ W hu
        have HLF : Hid (lastF F q = lastF F q) := Lib.hid rfl
        generalize hX : hD F q room = X at *
        have HX := Lib.hid hX
        generalize syncD X = Y at *
        generalize syncE X = E at *
        clear hX HLF hc hrx
        go_upto_region 23 with fail
        have HH1 := Lib.hid (HHS.out.below (one_new wr (.cells #[.bool true, .int .u8 (c.a.toNat : Int), .int .u8 (c.b.toNat : Int)] 46)))
        have hmw1 := Nat.le_trans hmw (one_new wr (.cells #[.bool true, .int .u8 (c.a.toNat : Int), .int .u8 (c.b.toNat : Int)] 46)).size
        have HDV := Lib.hid (HOX.out.below (one_new wr (.cells #[.bool true, .int .u8 (c.a.toNat : Int), .int .u8 (c.b.toNat : Int)] 46))).dv
        have hBv := one_new wr (.cells #[.bool true, .int .u8 (c.a.toNat : Int), .int .u8 (c.b.toNat : Int)] 46)
        generalize wr.alloc (.cells #[.bool true, .int .u8 (c.a.toNat : Int), .int .u8 (c.b.toNat : Int)] 46) = W1 at *
        have x0 := (bcells hBv hxl 0).trans x0
        have x1 := (bcells hBv hxl 1).trans x1
        have x2 := (bcells hBv hxl 2).trans x2
        have x3 := (bcells hBv hxl 3).trans x3
        clear hBv q0 q1' q2'
        go_wp2_with fail
        refine (HSY.out _ _ HDV.out).mono ?_
        rintro e W2 ⟨vy, rfl, hdy, hbe2⟩
        obtain ⟨psy, Ny, csy, ppy, My, cpy, rfl, HOY, hy1', hy2', hy3', hy4'⟩ := hdy.op
        have HH2 := Lib.hid (HH1.out.below hbe2)
        have hmw2 := Nat.le_trans hmw1 hbe2.size
        clear hdy hbe2 x0 x1 x2 x3 HSY HDV HH1
        go_wp2_with fail
        have HYD := Lib.hid (HOY.out.below (one_new W2 (.cells #[.slice psy Ny csy, .slice ppy My cpy, .int .i64 Y.left, .bool Y.st] 25))).dv
        have HYS : Hid (Y.s.all secB = true ∧ ∀ x ∈ Y.p, x.2.length = 128) := Lib.hid (by
          rcases HCASE.out with ⟨_, e1, _⟩ | ⟨_, _, e1, _, e2⟩
          · rw [e1]; exact ⟨secs_all _ _, fun x hx => by simp [hD, wsH] at hx⟩
          · rw [e1, e2]; exact ⟨secs_all _ _, fun x hx => by simp at hx⟩)
        have hyr : (W2.alloc (.cells #[.slice psy Ny csy, .slice ppy My cpy, .int .i64 Y.left, .bool Y.st] 25)).heap[W2.heap.size]? = drow (.slice psy Ny csy) (.slice ppy My cpy) Y := heap_alloc_new _ _
        have HH3 := Lib.hid (HH2.out.below (one_new W2 (.cells #[.slice psy Ny csy, .slice ppy My cpy, .int .i64 Y.left, .bool Y.st] 25)))
        have hzm : m ≤ W2.heap.size := hmw2
        have hmw3 : m ≤ (W2.alloc (.cells #[.slice psy Ny csy, .slice ppy My cpy, .int .i64 Y.left, .bool Y.st] 25)).heap.size := by simp; omega
        have HYB : Hid (BD (W2.alloc (.cells #[.slice psy Ny csy, .slice ppy My cpy, .int .i64 Y.left, .bool Y.st] 25)) W2.heap.size Y) := Lib.hid ⟨_, _, hyr, HYD.out⟩
        clear hyr HYD HOY
        generalize W2.alloc (.cells #[.slice psy Ny csy, .slice ppy My cpy, .int .i64 Y.left, .bool Y.st] 25) = W3 at *
        generalize W2.heap.size = zb at *
        go_loopw [20] (fun x wl => ∃ j : Nat, x = .int .i64 j ∧ j ≤ q.length ∧ j ≤ room + 1 ∧ m ≤ wl.heap.size ∧ Hid (BD wl zb Y) ∧ Hid (HS w m b5 b8 b9 b10 wl X (lastF F q) (lastF F (q.take j)) (lastF F (q.take (min j room))) (.slice pq q.length cq) q)) (fun x _ => q.length - (intOf x).toNat)
        case atStart => exact ⟨0, rfl, Nat.zero_le _, Nat.zero_le _, hmw3, HYB, by rw [Nat.zero_min]; exact HH3⟩
        case round =>
          clear HYB HH3
          obtain ⟨j, rfl, hjq, hjr, hmwl, HYB, HHL⟩ := hrel
          by_cases hgo : j < q.length ∧ j ≤ room
          · obtain ⟨hj1, hj2⟩ := hgo
            have hi1 : (j : Int) < (q.length : Int) := by omega
            have hi2 : (j : Int) ≤ (room : Int) := by omega
            obtain ⟨e, he⟩ : ∃ e, q[j]? = some e := ⟨_, List.getElem?_eq_getElem hj1⟩
            obtain ⟨g, rfl, hgm, hgl, g1, g2⟩ := HHL.out.actAt he
            have hk4 : e.a.toNat % 4 < 4 := Nat.mod_lt _ (by omega)
            have htm : (e.a.toNat : Int).tmod 4 = ((e.a.toNat % 4 : Nat) : Int) := (Int.ofNat_tmod _ 4).symm
            have hw1 : IntKind.u8.wrap ((e.a.toNat % 4 : Nat) : Int) = ((e.a.toNat % 4 : Nat) : Int) := by unfold IntKind.wrap; rw [show IntKind.u8.bits = 8 from rfl]; simp; omega
            have hki : ((e.a.toNat % 4 : Nat) : Int) < 4 := by omega
            have hT : lastF F (q.take (j + 1)) = upd (lastF F (q.take j)) (e.a.toNat % 4) e.b := by rw [List.take_succ_eq_append_getElem hj1, (List.getElem?_eq_some_iff.1 he).2, lastF_snoc]
            have HT := Lib.hid hT
            clear he hT
            generalize e.a.toNat % 4 = k at *
            have f1 := arow_at HHL.out.hf hk4
            have f2 : wr.frozen? ⟨b9, k, none⟩ = false := (row4c HHL.out.hf).2.2.2.2 k
            have hg9 : g ≠ b9 := by have := HBB.out.m9; omega
            have hg10 : g ≠ b10 := by have := HBB.out.m10; omega
            have hz9 : zb ≠ b9 := by have := HBB.out.m9; omega
            have hz10 : zb ≠ b10 := by have := HBB.out.m10; omega
            go_upto_region 28 with fail
            go_region_held3 (fun w' => w'.cell? ⟨g, j * 3 + 1, none⟩ = some (.int .u8 (e.a.toNat : Int)) ∧ w'.cell? ⟨g, j * 3 + 2, none⟩ = some (.int .u8 (e.b.toNat : Int))) (first | exact ⟨g1, g2⟩ | exact ⟨set_keep hg9 g1, set_keep hg9 g2⟩ | (go_keep; done)) (fail)
            have HL2 := Lib.hid ((HHL.out.setF HBB.out hk4 e.b).below (drew_below (Below.refl _ _)))
            have HB2 := Lib.hid ((HYB.out.chgArr HYS.out.1 HYS.out.2 HHL.out.hf hz9 (chg_set wr b9 k (.int .u8 (e.b.toNat : Int)))).below (drew_below (Below.refl _ _)))
            have hm2 : m ≤ (wr.setCell ⟨b9, k, none⟩ (.int .u8 (e.b.toNat : Int))).drew.heap.size := by show m ≤ (wr.setCell ⟨b9, k, none⟩ (.int .u8 (e.b.toNat : Int))).heap.size; simpa using hmwl
            have g3 : (wr.setCell ⟨b9, k, none⟩ (.int .u8 (e.b.toNat : Int))).drew.cell? ⟨g, j * 3 + 1, none⟩ = some (.int .u8 (e.a.toNat : Int)) := set_keep hg9 g1
            have g4 : (wr.setCell ⟨b9, k, none⟩ (.int .u8 (e.b.toNat : Int))).drew.cell? ⟨g, j * 3 + 2, none⟩ = some (.int .u8 (e.b.toNat : Int)) := set_keep hg9 g2
            clear g1 g2 f1 f2
            generalize (wr.setCell ⟨b9, k, none⟩ (.int .u8 (e.b.toNat : Int))).drew = W5 at *
            have f1 := arow_at HL2.out.hs hk4
            have f2 : W5.frozen? ⟨b10, k, none⟩ = false := (row4c HL2.out.hs).2.2.2.2 k
            rw [← HT.out] at HL2
            by_cases hj3 : j < room
            · have hi3 : (j : Int) < (room : Int) := by omega
              have hS : lastF F (q.take (min (j + 1) room)) = upd (lastF F (q.take (min j room))) k e.b := by
                rw [Nat.min_eq_left (by omega), Nat.min_eq_left (by omega)]
                exact HT.out
              go_upto_region 30 with fail
              go_region_held3 (fun w' => w'.cell? ⟨g, j * 3 + 1, none⟩ = some (.int .u8 (e.a.toNat : Int)) ∧ w'.cell? ⟨g, j * 3 + 2, none⟩ = some (.int .u8 (e.b.toNat : Int))) (first | exact ⟨g3, g4⟩ | exact ⟨set_keep hg10 g3, set_keep hg10 g4⟩ | (go_keep; done)) (fail)
              have HL3 := Lib.hid ((HL2.out.setS HBB.out hk4 e.b).below (drew_below (Below.refl _ _)))
              have HB3 := Lib.hid ((HB2.out.chgArr HYS.out.1 HYS.out.2 HL2.out.hs hz10 (chg_set W5 b10 k (.int .u8 (e.b.toNat : Int)))).below (drew_below (Below.refl _ _)))
              have hm3 : m ≤ (W5.setCell ⟨b10, k, none⟩ (.int .u8 (e.b.toNat : Int))).drew.heap.size := by show m ≤ (W5.setCell ⟨b10, k, none⟩ (.int .u8 (e.b.toNat : Int))).heap.size; simpa using hm2
              rw [← hS] at HL3
              clear g3 g4 f1 f2
              generalize (W5.setCell ⟨b10, k, none⟩ (.int .u8 (e.b.toNat : Int))).drew = W6 at *
              go_wp2_with fail
              go_roundw
              case rel => exact ⟨j + 1, by go_num, hj1, by omega, hm3, HB3, HL3⟩
              case measure => simp [intOf]; omega
            · have hi3 : ¬ (j : Int) < (room : Int) := by omega
              have hS : lastF F (q.take (min (j + 1) room)) = lastF F (q.take (min j room)) := by
                rw [Nat.min_eq_right (by omega), Nat.min_eq_right (by omega)]
              rw [← hS] at HL2
              clear g3 g4 f1 f2
              go_wp2_with fail
              go_roundw
              case rel => exact ⟨j + 1, by go_num, hj1, by omega, hm2, HB2, HL2⟩
              case measure => simp [intOf]; omega
          · rcases HCASE.out with ⟨hfull, hY, hE⟩ | ⟨htorn, hE, hYs, hYt, hYp⟩
            · obtain rfl : j = q.length := by omega
              subst hE
              have HYE := Lib.hid hY
              clear hY
              have hd : decide (room < q.length) = false := decide_eq_false (by omega)
              have hgo2 : ¬ ((q.length : Nat) : Int) < (q.length : Int) := by omega
              rw [List.take_of_length_le (Nat.le_refl _), Nat.min_eq_left hfull, List.take_of_length_le (Nat.le_refl _)] at HHL
              rw [hd]
              obtain ⟨psz, Nz, csz, ppz, Mz, cpz, hrz, HOZ, hz1', hz2', hz3', hz4'⟩ := HYB.out.open
              obtain ⟨z0, z1, z2, z3, _⟩ := row_cells hrz
              have HA := Lib.hid (HHL.out.anew hmwl)
              obtain ⟨v0, v1, hrx2, hdx2⟩ := HA.out.bd
              have HRX := Lib.hid hrx2
              have HBZ := Lib.hid (HYB.out.below (one_new wr (.cells #[] 46)))
              have HOZ2 := Lib.hid (HOZ.out.below (one_new wr (.cells #[] 46)))
              have hzl := HYB.out.lt
              have z0 := (bcells (one_new wr (.cells #[] 46)) hzl 0).trans z0
              have z1 := (bcells (one_new wr (.cells #[] 46)) hzl 1).trans z1
              have z2 := (bcells (one_new wr (.cells #[] 46)) hzl 2).trans z2
              have z3 := (bcells (one_new wr (.cells #[] 46)) hzl 3).trans z3
              clear hrx2 hdx2 hrz hgo HOZ
              go_upto_region 38 with (refine dk_store rfl (.tmp 5) (.tmp 152) rfl b5 _ _ _ _ _ HRX.out rfl rfl rfl ⟨rfl, rfl, rfl, rfl⟩ ?_; rintro we re hce)
              have HH5 := Lib.hid (HA.out.dk HBB.out re.out HOZ2.out.dv HYS.out.1 HYS.out.2 hce)
              have hmw5 : m ≤ we.heap.size := Nat.le_trans (Nat.le_trans hmwl (one_new wr (.cells #[] 46)).size) hce.size
              have HHO : Hid (∀ (u : Value) W, DV W u Y → Calls Try.prog 28 #[u, arr (lastF F q), arr (lastF F q)] W (Ret (.bool true) W)) := Lib.hid fun u W hu => holds_true u Y _ _ W hu (by
                rw [HYE.out]
                intro j hj
                exact h_read (lastF F q) (q := []) (by simp) (by omega) j hj)
              have HLE : Hid (lastF (lastF F q) [] = lastF F q) := Lib.hid rfl
              obtain ⟨psy, Ny, csy, ppy, My, cpy, hry, HOY, hy1', hy2', hy3', hy4'⟩ := HH5.out.bd.open
              obtain ⟨y0, y1, y2, y3, _⟩ := row_cells hry
              obtain ⟨l0, l1, l2, l3, _⟩ := row4c HH5.out.hl
              clear hry HA hce re HRX z0 z1 z2 z3 HCASE
              generalize hG : lastF F q = G at *
              have HGE := Lib.hid hG
              clear hG
              have hrl : ((room : Int) - (q.length : Int)) = ((room - q.length : Nat) : Int) := by omega
              have hrm : room - q.length ≤ 255 := by omega
              go_wp2_with fail
              refine (HHO.out _ _ HOY.out.dv).mono ?_
              rintro e W6 ⟨rfl, hbe6⟩
              have HH6 := Lib.hid (HH5.out.below hbe6)
              have hmw6 : m ≤ W6.heap.size := Nat.le_trans hmw5 hbe6.size
              clear hbe6 y0 y1 y2 y3 l0 l1 l2 l3
              go_wp2_with fail
              go_roundw
              case rel => exact ⟨i + 1, room - q.length, G, [], by go_num, rfl, hlt, Nat.zero_le _, hrm, hmw6, by rw [← HYE.out, HLE.out]; exact HH6⟩
              case measure => simp [intOf]; omega
            · obtain rfl : j = room + 1 := by omega
              have hd : decide (room < q.length) = true := decide_eq_true htorn
              rw [Nat.min_eq_right (by omega)] at HHL
              rw [hd]
              subst hE
              have hst := Lib.hid hYt
              obtain ⟨psz, Nz, csz, ppz, Mz, cpz, hrz, HOZ, hz1', hz2', hz3', hz4'⟩ := HYB.out.open
              obtain ⟨z0, z1, z2, z3, _⟩ := row_cells hrz
              rw [hYt] at z3
              have hzl := HYB.out.lt
              have HR1 := fun x : Later wr => restart_val Y psz Nz csz ppz Mz cpz x.v (by omega)
              have HH1 := fun x : Later wr => holds_true _ (rst Y) (lastF F (q.take (room + 1))) (lastF F (q.take room)) x.v (op_rst HOZ.out x.b) (fun j hj => rst_read hYs j hj)
              have HR1 := Lib.hid HR1
              have HH1 := Lib.hid HH1
              obtain ⟨f0, f1, f2, f3, _⟩ := row4c HHL.out.hf
              obtain ⟨s0, s1, s2, s3, _⟩ := row4c HHL.out.hs
              have hl9 := heap_lt HHL.out.hf
              have hl10 := heap_lt HHL.out.hs
              generalize lastF F (q.take (room + 1)) = F1 at *
              generalize lastF F (q.take room) = S1 at *
              have Z0 := Later.cell hzl z0
              have Z1 := Later.cell hzl z1
              have Z2 := Later.cell hzl z2
              have Z3 := Later.cell hzl z3
              have A0 := Later.cell hl9 f0
              have A1 := Later.cell hl9 f1
              have A2 := Later.cell hl9 f2
              have A3 := Later.cell hl9 f3
              have C0 := Later.cell hl10 s0
              have C1 := Later.cell hl10 s1
              have C2 := Later.cell hl10 s2
              have C3 := Later.cell hl10 s3
              have hyt := hYt
              clear hrz hYs hYp hYt hst z0 z1 z2 z3 f0 f1 f2 f3 s0 s1 s2 s3 HCASE
              have hend : ¬ ((room : Int) + 1 ≤ (room : Int)) := by omega
              have hlt2 : ((room : Int) + 1 < (q.length : Int)) ∨ ¬ ((room : Int) + 1 < (q.length : Int)) := by omega
              rcases hlt2 with hlt2 | hlt2
              all_goals
                go_upto_region 32 with fail
                refine wp_region_later (by kernel_rfl) (by kernel_rfl) ?_
                iterate 8 (go_big_quiet_step (fail))
                go_big_quiet_step ((go_at_call 17; rw [← hyt]; exact Later.calls (HR1.out _)))
                iterate 2 (go_big_quiet_step (fail))
                go_big_quiet_step ((go_at_call 28; exact Later.calls (HH1.out _)))
                iterate 2 (go_big_quiet_step (fail))
                refine wpQuiet_nil ?_
                intro _ hw'
                obtain ⟨x, hx⟩ := hw'
                subst hx
                go_wp2_with fail
                go_ret
                exact ⟨rfl, HHL.out.bel.trans (x.b.mono HHL.out.bel.size)⟩
    · have hie : ¬ (i : Int) < (L : Int) := by omega
      obtain ⟨psz, Nz, csz, ppz, Mz, cpz, hrz, HOZ, hz1', hz2', hz3', hz4'⟩ := HHS.out.bd.open
      obtain ⟨z0, z1, z2, z3, _⟩ := row_cells hrz
      have hzl := HHS.out.bd.lt
      have HR1 := fun x : Later wr => restart_val (hD F q room) psz Nz csz ppz Mz cpz x.v (by omega)
      have HH1 := fun x : Later wr => holds_true _ (rst (hD F q room)) F F x.v (op_rst HOZ.out x.b) (fun j hj => rst_read rfl j hj)
      have HR1 := Lib.hid HR1
      have HH1 := Lib.hid HH1
      obtain ⟨f0, f1, f2, f3, _⟩ := row4c HHS.out.hf
      obtain ⟨s0, s1, s2, s3, _⟩ := row4c HHS.out.hs
      have hl9 := heap_lt HHS.out.hf
      have hl10 := heap_lt HHS.out.hs
      generalize hD F q room = X at *
      have Z0 := Later.cell hzl z0
      have Z1 := Later.cell hzl z1
      have Z2 := Later.cell hzl z2
      have Z3 := Later.cell hzl z3
      have A0 := Later.cell hl9 f0
      have A1 := Later.cell hl9 f1
      have A2 := Later.cell hl9 f2
      have A3 := Later.cell hl9 f3
      have C0 := Later.cell hl10 s0
      have C1 := Later.cell hl10 s1
      have C2 := Later.cell hl10 s2
      have C3 := Later.cell hl10 s3
      clear hrz z0 z1 z2 z3 f0 f1 f2 f3 s0 s1 s2 s3
      go_upto_region 40 with fail
      refine wp_region_later (by kernel_rfl) (by kernel_rfl) ?_
      iterate 1 (go_big_quiet_step (fail))
      go_big_quiet_step ((go_at_call 17; exact Later.calls (HR1.out _)))
      iterate 2 (go_big_quiet_step (fail))
      go_big_quiet_step ((go_at_call 28; exact Later.calls (HH1.out _)))
      iterate 1 (go_big_quiet_step (fail))
      refine wpQuiet_nil ?_
      intro _ hw'
      obtain ⟨x, hx⟩ := hw'
      subst hx
      go_wp2_with fail
      go_ret
      exact ⟨rfl, HHS.out.bel.trans (x.b.mono HHS.out.bel.size)⟩
end Go.Proofs.Ytanmhjbeookfiaa
