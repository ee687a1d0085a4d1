/-
  NetworkAll's own body: it returns true.
-/
import Derived.Test.YtpempgajejbdoaaAll
namespace Go.Proofs.Ytpempgajejbdoaa
open Go Go.RowKit
def lenOf : Value → Nat
  | .slice _ n _ => n
  | _ => 0
set_option maxRecDepth 20000 in
set_option maxHeartbeats 8000000 in
theorem lawAll (v : Value) (l : List Pk) (u : Value) (ord : List UInt8) (w : World) (h : QV Evr w v l) (ho : BV Evr w u ord) (hsane : ∀ w : World, Calls Try.prog 9 #[] w (Ret (.bool true) w)) : Calls Try.prog 6 #[v, u] w (Ret (.bool true) w) := by
  obtain ⟨pl, cl, rfl, hl1, hl2, hl3⟩ := h.shape
  obtain ⟨po, co, rfl, ho1, ho2⟩ := ho.shape
  unfold maxLen at hl2 ho2
  have HL := Lib.hid (QV.wid (G := Lo Evr w) h fun b hb hF => ⟨hF, hb⟩)
  have HOR := Lib.hid ho
  have HSN := Lib.hid hsane
  clear h ho hsane hl3
  generalize hLl : l.length = L at *
  generalize hOl : ord.length = O at *
  go_enter Try.func6, Try.ntmps6
  go_wp2_with fail
  refine (HSN.out _).mono ?_
  rintro e w1 ⟨rfl, hb1⟩
  by_cases h12 : 12 < L
  · have hI : (12 : Int) < (L : Int) := by omega
    go_wp2_with fail
    go_ret
    exact ⟨rfl, hb1⟩
  have hI : ¬ (12 : Int) < (L : Int) := by omega
  go_wp2_with fail
  refine (new_any (F := fun _ => False) w1).mono ?_
  rintro e w2 ⟨v2, rfl, hv2, hb2⟩
  obtain ⟨pq0, N0, cq0, pa0, M0, ca0, rfl, HO0, _⟩ := hv2.op
  have HA0 : Hid (A1 w (w2.alloc (.cells #[.slice pq0 N0 cq0, .slice pa0 M0 ca0] 25)) w2.heap.size [] (.slice none 0 0) (.slice pq0 N0 cq0) (.slice pa0 M0 ca0) []) := Lib.hid ⟨heap_alloc_new _ _, (hv2.wid fun b hb _ => ⟨by omega, fun e => by cases e⟩).below (one_new _ _), OwnN.nil 3 _, (fun j x hj => by simp at hj), (fun k e => by cases e), (hb1.trans (hb2.mono hb1.size)).trans ((one_new _ _).mono (by have := hb1.size; have := hb2.size; omega)), fun x hx => by simp at hx⟩
  have hwnb : w.heap.size ≤ w2.heap.size := by have := hb1.size; have := hb2.size; omega
  clear hv2 hb1 hb2 HO0
  go_wp2_with fail
  generalize (w2.alloc (.cells #[.slice pq0 N0 cq0, .slice pa0 M0 ca0] 25)) = W0 at *
  generalize w2.heap.size = nb at *
  obtain ⟨i0, hi0, hz0, hsz0, hby0⟩ := inf28
  go_loopw [6, 7] (fun v i wr => ∃ k : Nat, k ≤ L ∧ i = .int .i64 k ∧ ∃ rv q c0 c1 xs, rv = v ∧ q.length ≤ k ∧ Hid (A1 w wr nb q rv c0 c1 xs)) (fun _ i _ => L - (intOf i).toNat)
  case atStart => exact ⟨0, by omega, rfl, _, [], _, _, [], rfl, by simp, HA0⟩
  case round =>
    clear HA0
    obtain ⟨k, hk, rfl, rv, q, c0, c1, xs, rfl, hqk, HA⟩ := hrel
    by_cases hgo : k < L
    · have hgI : (k : Int) < (L : Int) := by omega
      have hw1 : IntKind.i64.wrap ((k : Int) + 1) = (k : Int) + 1 := by rw [IntKind.wrap_i64]; omega
      obtain ⟨b, o, f, t, pu, Lu, cu, d, rfl, hbl, g0, g1, g2, HX, hu1, hu2, HW⟩ := HL.out.pkAt k (by omega)
      have hPK : PKV (Lo Evr w) w (.agg #[.int .i64 f, .int .i64 t, .slice pu Lu cu]) (f, t, d) := ⟨_, rfl, HW.out.1, HW.out.2, HX.out.2.2⟩
      have hbw := HA.out.below
      have hnbl := HA.out.nb
      have hbb : b < wr.heap.size := Nat.lt_of_lt_of_le hbl hbw.size
      have g0 := (bcells hbw hbl _).trans g0
      have g1 := (bcells hbw hbl _).trans g1
      have g2 := (bcells hbw hbl _).trans g2
      obtain ⟨⟨r0, r1⟩, r2, r3⟩ := row2_cells HA.out.row
      obtain ⟨pq, N, cq, pa, M, ca, hc, HO, _⟩ := HA.out.nv.op
      obtain ⟨rfl, rfl⟩ : c0 = .slice pq N cq ∧ c1 = .slice pa M ca := by simpa [nval] using hc
      have hPw : PKV (Ot nb rv) wr (.agg #[.int .i64 f, .int .i64 t, .slice pu Lu cu]) (f, t, d) := (hPK.below hbw).wid fun b _ hb => ⟨by have := hb.2; omega, fun e => by have := HA.out.new b e; have := hb.2; omega⟩
      obtain ⟨m, hm⟩ : ∃ m, sendN ⟨q, []⟩ (f, t, d) = m := ⟨_, rfl⟩
      obtain ⟨E, hE⟩ : ∃ E, sendE ⟨q, []⟩ (f, t, d) = E := ⟨_, rfl⟩
      have hsA := Lib.hid (sdA HA.out.nv hPw hm hE)
      have hsB := Lib.hid (sdB (.slice none 0 0) (.slice none 0 0) HA.out.nv hPw hm hE)
      have HPK := Lib.hid hPK
      have HXA := Lib.hid (show (E = 60) ∨ (E = 0 ∧ m = ⟨q ++ [(f, t, d)], []⟩ ∧ pkB (f, t, d) = true) from by
        cases hp : pkB (f, t, d)
        · exact .inl (by rw [← hE]; exact snd_no hp)
        · have := snd_yes (q := q) (by omega) HA.out.ok hp
          exact .inr ⟨by rw [← hE]; exact this.2, by rw [← hm]; exact this.1, rfl⟩)
      clear hm hE hPw hPK hbw hc HO
      go_upto_region 10 with fail
      go_region_with (first
        | (go_at_call 11; refine hsA.out.mono ?_; rintro e w9 ⟨q9, N9, k9, a9, M9, l9, rfl, HN9, HB9, HC9⟩)
        | (go_at_call 11; refine hsB.out.mono ?_; rintro e w9 ⟨q9, N9, k9, a9, M9, l9, rfl, HF9, HN9, HB9, HC9⟩; obtain ⟨⟨x0, x1⟩, y0, y1⟩ := HF9.out))
      all_goals
        first
          | (
            have _ := HF9.out
            obtain ⟨z0, z1⟩ := HC9.out
            have hB9 := HB9.out
            clear HF9 x0 x1 y0 y1 HC9 HB9 hsA hsB
            generalize ((w9.setCell ⟨wr.heap.size, 0, none⟩ (.slice q9 N9 k9)).setCell ⟨wr.heap.size, 1, none⟩ (.slice a9 M9 l9)) = V at *
            obtain ⟨zb, hzb⟩ : ∃ zb, zb = wr.heap.size := ⟨_, rfl⟩
            rw [← hzb] at z0 z1 ⊢
            clear hzb)
          | (
            obtain ⟨z0, z1⟩ := HC9.out
            have hB9 := HB9.out
            clear HC9 HB9 hsA hsB
            generalize (w9.alloc (.cells #[.slice q9 N9 k9, .slice a9 M9 l9] 25)) = V at *
            generalize w9.heap.size = zb at *)
      all_goals
        have hbV : b < V.heap.size := Nat.lt_of_lt_of_le hbb hB9.size
        have hbnb : b ≠ nb := by omega
        have g0 := (bcells hB9 hbb _).trans g0
        have g1 := (bcells hB9 hbb _).trans g1
        have g2 := (bcells hB9 hbb _).trans g2
        have rowV := Lib.hid ((hB9.block nb hnbl).trans HA.out.row)
        have HB9 := Lib.hid hB9
        clear r0 r1 r2 r3 hB9
        rcases HXA.out with rfl | ⟨rfl, rfl, hpx⟩
        · clear g0 g1 g2 z0 z1 rowV HN9
          go_wp2_with fail
          go_roundw
          case rel => exact ⟨k + 1, by omega, by go_num, rv, q, _, _, xs, rfl, by omega, Lib.hid (HA.out.later HB9.out)⟩
          case measure => simp [intOf]; omega
        · have HPX := Lib.hid hpx
          have hqL : q.length + 1 ≤ 12 := by omega
          clear hpx
          go_wp2_with (first
            | (refine nt_store rfl (.tmp 5) (.tmp 38) rfl nb _ _ _ rowV.out rfl rfl rfl ⟨rfl, rfl⟩ ?_; rintro V2 hr2 hc2; have g0 := (hc2.cell hbV hbnb).trans g0; have g1 := (hc2.cell hbV hbnb).trans g1; have g2 := (hc2.cell hbV hbnb).trans g2; have HC2 := Lib.hid hc2; clear hc2)
            | (at_builtin; go_loud (refine wpList_ownN rfl (.tmp 39) (.tmp 44) 22 22 rfl 28 i0 _ 40 Try.underlying22 hi0 hz0 hsz0 (by decide) hby0 rfl _ _ _ rfl ((HA.out.own2 HB9.out HC2.out).alloc _) 1 [.int .i64 f, .int .i64 t, .slice pu Lu cu] rfl ((one_vl ⟨rfl, rfl, rfl⟩).src Try.underlying22) (by unfold maxLen; omega) (by omega) ?_; rintro v5 w5 ho hg hn; have HA5 := Lib.hid (HA.out.next hwnb HB9.out HC2.out hr2.out HN9.out HPX.out ⟨_, rfl, HW.out.1, HW.out.2, HX.out.2.2⟩ ho hg hn); clear ho hg hn)))
          go_roundw
          case rel => exact ⟨k + 1, by omega, by go_num, v5, q ++ [(f, t, d)], _, _, _, rfl, by simp; omega, HA5⟩
          case measure => simp [intOf]; omega
    · have hxI : ¬ (k : Int) < (L : Int) := by omega
      have HA2 := Lib.hid (HA.out.a2 hwnb)
      clear HA
      go_wp2_with fail
      generalize wr = wo at *
      go_loopw [6, 10] (fun v i wr => ∃ (rv : Value) (j : Nat) (q : List Pk) (c0 c1 : Value), rv = v ∧ i = .int .i64 j ∧ q.length + j ≤ 12 ∧ Hid (A2 w wr nb q rv c0 c1)) (fun v _ _ => lenOf v)
      case atStart => exact ⟨_, 0, q, _, _, rfl, rfl, by omega, HA2⟩
      clear HA2
      obtain ⟨rv, j, q, c0, c1, rfl, rfl, hqj, HA⟩ := hrel
      obtain ⟨pr, cr, rfl, hr1, hr2, hr3⟩ := HA.out.lst.shape
      obtain ⟨⟨r0, r1⟩, r2, r3⟩ := row2_cells HA.out.row
      obtain ⟨pq, Nq, cq, pa, M, ca, hc, HO, _⟩ := HA.out.nv.op
      obtain ⟨rfl, rfl⟩ : c0 = .slice pq Nq cq ∧ c1 = .slice pa M ca := by simpa [nval] using hc
      have hNq : q.length = Nq := HO.out.nq
      clear hc HO
      generalize hQl : q.length = N at *
      subst hNq
      have hnbl := HA.out.nb
      have hwj : IntKind.i64.wrap ((j : Int) + 1) = (j : Int) + 1 := by rw [IntKind.wrap_i64]; omega
      by_cases h0 : N = 0
      · subst h0
        go_wp2_with fail
        go_ret
        exact ⟨rfl, HA.out.below⟩
      have h0I : (0 : Int) < (N : Int) := by omega
      have h0e : ¬ ((N : Int) = 0) := by omega
      have hbw := HA.out.below
      by_cases hjo : j < O
      have hjI : (j : Int) < (O : Int) := by omega
      obtain ⟨bo, capo, p', ho', _, _, _, hbts⟩ := HOR.out
      cases ho'
      rcases hbts with hnil | ⟨oo, rfl, ⟨hbo, _⟩, hcell⟩
      · exact absurd hnil (by intro h; rw [h] at hjo; simp at hjo)
      obtain ⟨c, hc⟩ : ∃ c, ord[j]? = some c := ⟨_, List.getElem?_eq_getElem (by omega)⟩
      have gc := (bcells hbw hbo _).trans (hcell j c hc)
      unfold byt at gc
      have hc256 := c.toNat_lt
      have f1 : IntKind.i64.wrap (c.toNat : Int) = (c.toNat : Int) := by rw [IntKind.wrap_i64]; omega
      obtain ⟨kk, hkk⟩ : ∃ kk, kk = c.toNat % N := ⟨_, rfl⟩
      have hkN : kk < N := by rw [hkk]; exact Nat.mod_lt _ (by omega)
      have f2 : (c.toNat : Int).tmod (N : Int) = (kk : Int) := by rw [hkk]; rfl
      have f3 : IntKind.i64.wrap (kk : Int) = (kk : Int) := by rw [IntKind.wrap_i64]; omega
      clear hkk hcell
      go_upto_region 20 with fail
      rotate_left
      have hjI : ¬ (j : Int) < (O : Int) := by omega
      go_upto_region 20 with fail
      generalize hz : (0 : Int) = z
      obtain ⟨kk, rfl, hkN⟩ : ∃ kk : Nat, z = (kk : Int) ∧ kk < N := ⟨0, by rw [← hz]; rfl, by omega⟩
      clear hz
      all_goals
        obtain ⟨x, hx⟩ : ∃ x, q[kk]? = some x := ⟨_, List.getElem?_eq_getElem (by omega)⟩
        obtain ⟨d1, d2, d3⟩ := del_yes (q := q) (by omega) HA.out.ok hx
        have hd := deliver_any _ ⟨q, []⟩ (kk : Int) wr HA.out.nv
        rw [d1, d2, d3] at hd
        go_wp2_with fail
        refine hd.mono ?_
        clear hd d1 d2 d3
        rintro e w4 ⟨u4, v4, rfl, hu4, hv4, hb4⟩
        obtain ⟨p4, L4, k4, rfl, _, _, _⟩ := hu4.open
        obtain ⟨q4, N4, z4, a4, M4, l4, rfl, _, _⟩ := hv4.op
        have hs4 : wr.heap.size ≤ w4.heap.size := hb4.size
        have hbx := two_below w4 (.cells #[.int .i64 x.1, .int .i64 x.2.1, .slice p4 L4 k4] 28) (.cells #[.slice q4 N4 z4, .slice a4 M4 l4] 25)
        have hsx : ((w4.alloc (.cells #[.int .i64 x.1, .int .i64 x.2.1, .slice p4 L4 k4] 28)).alloc (.cells #[.slice q4 N4 z4, .slice a4 M4 l4] 25)).heap.size = w4.heap.size + 2 := by simp
        obtain ⟨x0, x1, x2⟩ := keep3' (one_new (w4.alloc (.cells #[.int .i64 x.1, .int .i64 x.2.1, .slice p4 L4 k4] 28)) (.cells #[.slice q4 N4 z4, .slice a4 M4 l4] 25)) (by simp) (nw3 w4 (.int .i64 x.1) (.int .i64 x.2.1) (.slice p4 L4 k4) 28)
        obtain ⟨y0, y1⟩ := nw2 (w4.alloc (.cells #[.int .i64 x.1, .int .i64 x.2.1, .slice p4 L4 k4] 28)) (.slice q4 N4 z4) (.slice a4 M4 l4) 25
        rw [World.size_alloc] at y0 y1
        have hbV : Below wr.heap.size wr ((w4.alloc (.cells #[.int .i64 x.1, .int .i64 x.2.1, .slice p4 L4 k4] 28)).alloc (.cells #[.slice q4 N4 z4, .slice a4 M4 l4] 25)) := hb4.trans (hbx.mono hs4)
        have HP := Lib.hid (hu4.below hbx)
        have HN := Lib.hid (hv4.below hbx)
        go_upto_region 21 with fail
        clear hu4 hv4 hb4 hbx
        generalize ((w4.alloc (.cells #[.int .i64 x.1, .int .i64 x.2.1, .slice p4 L4 k4] 28)).alloc (.cells #[.slice q4 N4 z4, .slice a4 M4 l4] 25)) = V1 at *
        obtain ⟨b, o, f, t, pu, Lu, cu, d, rfl, hbl, g0, g1, g2, HX, hu1, hu2, HW⟩ := HA.out.lst.pkAt kk (by omega)
        obtain rfl : x = (f, t, d) := by have := HX.out.1; rw [hx] at this; exact Option.some.inj this
        have hkNI : (kk : Int) < (N : Int) := by omega
        have hbV1 : b < V1.heap.size := Nat.lt_of_lt_of_le hbl hbV.size
        have g0 := (bcells hbV hbl _).trans g0
        have g1 := (bcells hbV hbl _).trans g1
        have g2 := (bcells hbV hbl _).trans g2
        have KS := samep_any _ _ (f, t, d) (f, t, d) V1.drew (HP.out.below (drew_bel (Below.refl _ _))) (G := fun _ => True) (((show PKV (fun b => b ≠ nb) wr (.agg #[.int .i64 f, .int .i64 t, .slice pu Lu cu]) (f, t, d) from ⟨_, rfl, HW.out.1, HW.out.2, HX.out.2.2⟩).wid fun _ _ _ => trivial).below (drew_bel hbV))
        rw [show sameP (f, t, d) (f, t, d) = true by simp [sameP]] at KS
        have KS := Lib.hid KS
        clear r0 r1 r2 r3
        go_region_with (go_at_call 22; refine KS.out.mono ?_; rintro e V3 ⟨rfl, hV3⟩)
        all_goals
          have hV13 : Below V1.heap.size V1 V3 := (drew_bel (Below.refl _ _)).trans hV3
          have hbW : Below wr.heap.size wr V3 := hbV.trans (hV13.mono hbV.size)
          have cc := keep2' hV13 (by omega) ⟨y0, y1⟩
          clear y0 y1
          obtain ⟨y0, y1⟩ := cc
          have rowV := Lib.hid ((hbW.block nb hnbl).trans HA.out.row)
          have HN3 := Lib.hid (HN.out.below hV13)
          have HBW := Lib.hid hbW
          clear x0 x1 x2 g0 g1 g2 KS HP HN hV13 hV3 hbW hbV HX hx
          go_upto_region 24 with (refine nt_store rfl (.tmp 5) (.tmp 81) rfl nb _ _ _ rowV.out rfl rfl rfl ⟨rfl, rfl⟩ ?_; rintro V4 hr4 hc4)
          have HC4 := Lib.hid hc4
          have hql : QV (fun b => b ≠ nb) V4 (.slice (some ⟨b, o, none⟩) N cr) q := (HA.out.lst.below HBW.out).keep (KeepF.of_chg hc4 (fun h => h rfl))
          obtain ⟨xs4, hvl, hqc⟩ := (hql.takec kk (by omega)).vl
          rw [show (q.take kk).length = kk by rw [List.length_take]; omega] at hvl
          have HVL := Lib.hid hvl
          have HQC := Lib.hid hqc
          clear y0 y1 hc4 hvl hqc rowV
          have e0 : (0 : Int) ≤ (kk : Int) := by omega
          have e1 : (kk : Int) + 1 ≤ (N : Int) := by omega
          have e2 : ((kk : Int) + 1).toNat = kk + 1 := by omega
          have e3 : (kk : Int) ≤ (cr : Int) := by omega
          have e4 : (0 : Int) ≤ (kk : Int) + 1 := by omega
          have e5 : kk ≤ cr := by omega
          have e6 : kk + 1 ≤ N := by omega
          have e7 : (kk : Int) ≤ (kk : Int) + 1 := by omega
          have e8 : IntKind.i64.wrap ((kk : Int) + 1) = (kk : Int) + 1 := by
            rw [IntKind.wrap_i64]; omega
          by_cases hcap : cr = kk + 1
          · have hNk : N = kk + 1 := by omega
            subst hNk
            subst hcap
            obtain ⟨ys, hyl, hyc⟩ := (hql.drop (kk + 1) (by omega) (some ⟨b, o, none⟩) (.inr ⟨rfl, rfl⟩)).vl
            rw [show (q.drop (kk + 1)).length = 0 by rw [List.length_drop]; omega] at hyl
            rw [Nat.sub_self] at hyl
            have HYL := Lib.hid hyl
            have HYC := Lib.hid hyc
            clear hyl hyc hql
            go_region_law (first
              | (refine step_mid (by rfl) (.tmp 82) (.tmp 85) (.const undef) undef 22 (by rfl) (by rfl) 28 i0 _ 40 Try.underlying22 hi0 hz0 hsz0 (by decide) hby0 (by rfl) (.slice (some ⟨V4.heap.size, 0, none⟩) 0 0) _ (by rfl) (by rfl) V4 [] (mid_empty 28 (Below.refl _ _)) kk xs4 (HVL.out.below (alloc_drew V4 _)) (by omega) (by omega) ?_; intro v1 w1' hm hg; rw [Nat.zero_add, List.nil_append] at hm; have MB := Lib.hid hm; clear hm hg)
              | (refine step_mid (by rfl) (.tmp 86) (.tmp 90) (.const undef) undef 22 (by rfl) (by rfl) 28 i0 _ 40 Try.underlying22 hi0 hz0 hsz0 (by decide) hby0 (by rfl) v1 _ (by rfl) (by rfl) V4 xs4 MB.out (0) ys (HYL.out.below MB.out.below) (by omega) (by omega) ?_; intro v3 w3 hm hg; obtain ⟨q', cap, rfl⟩ := mid_shape hm; have MC := Lib.hid hm; clear hm hg))
            all_goals
              go_wp2_with fail
              have hlen : (q.take kk ++ q.drop (kk + 1)).length = kk + 0 := by rw [List.length_append, List.length_take, List.length_drop]; omega
              have hxl : xs4.length = (q.take kk).length * 3 := by obtain ⟨_, _, _, _, _, _, h, _⟩ := HVL.out; rw [h, List.length_take]; omega
              go_roundw
              case rel => exact ⟨_, j + 1, q.take kk ++ q.drop (kk + 1), _, _, rfl, by go_num, by omega, Lib.hid (HA.out.next hwnb HBW.out HC4.out hr4.out HN3.out (all_wo HA.out.ok) (by rw [hlen]; exact MC.out) (HQC.out.append HYC.out hxl))⟩
              case measure => simp [lenOf] <;> omega
          · obtain ⟨ys, hyl, hyc⟩ := (hql.drop (kk + 1) (by omega) (some ⟨b, o + (kk + 1) * 3, none⟩) (.inl rfl)).vl
            rw [show (q.drop (kk + 1)).length = N - (kk + 1) by rw [List.length_drop]; omega] at hyl
            have HYL := Lib.hid hyl
            have HYC := Lib.hid hyc
            clear hyl hyc hql
            have e9 : (kk : Int) + 1 ≤ (cr : Int) := by omega
            have e10 : kk + 1 ≤ cr := by omega
            have e11 : (N : Int) ≤ (cr : Int) := by omega
            go_region_law (first
              | (refine step_mid (by rfl) (.tmp 82) (.tmp 85) (.const undef) undef 22 (by rfl) (by rfl) 28 i0 _ 40 Try.underlying22 hi0 hz0 hsz0 (by decide) hby0 (by rfl) (.slice (some ⟨V4.heap.size, 0, none⟩) 0 0) _ (by rfl) (by rfl) V4 [] (mid_empty 28 (Below.refl _ _)) kk xs4 (HVL.out.below (alloc_drew V4 _)) (by omega) (by omega) ?_; intro v1 w1' hm hg; rw [Nat.zero_add, List.nil_append] at hm; have MB := Lib.hid hm; clear hm hg)
              | (refine step_mid (by rfl) (.tmp 86) (.tmp 90) (.const undef) undef 22 (by rfl) (by rfl) 28 i0 _ 40 Try.underlying22 hi0 hz0 hsz0 (by decide) hby0 (by rfl) v1 _ (by rfl) (by rfl) V4 xs4 MB.out (N - (kk + 1)) ys (HYL.out.below MB.out.below) (by omega) (by omega) ?_; intro v3 w3 hm hg; obtain ⟨q', cap, rfl⟩ := mid_shape hm; have MC := Lib.hid hm; clear hm hg))
            all_goals
              go_wp2_with fail
              have hlen : (q.take kk ++ q.drop (kk + 1)).length = kk + (N - (kk + 1)) := by rw [List.length_append, List.length_take, List.length_drop]; omega
              have hxl : xs4.length = (q.take kk).length * 3 := by obtain ⟨_, _, _, _, _, _, h, _⟩ := HVL.out; rw [h, List.length_take]; omega
              go_roundw
              case rel => exact ⟨_, j + 1, q.take kk ++ q.drop (kk + 1), _, _, rfl, by go_num, by omega, Lib.hid (HA.out.next hwnb HBW.out HC4.out hr4.out HN3.out (all_wo HA.out.ok) (by rw [hlen]; exact MC.out) (HQC.out.append HYC.out hxl))⟩
              case measure => simp [lenOf] <;> omega
end Go.Proofs.Ytpempgajejbdoaa
