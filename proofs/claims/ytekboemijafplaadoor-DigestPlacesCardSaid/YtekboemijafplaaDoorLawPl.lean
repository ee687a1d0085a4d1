/-
  Digest: the law DigestPlaces.
-/
import Derived.Test.YtekboemijafplaaDoorSte
import Derived.Test.YtekboemijafplaaDoorClNo
import Derived.Test.YtekboemijafplaaDoorPi
import Derived.Test.YtekboemijafplaaDoorPeel
import Derived.Test.YtekboemijafplaaDoorLawTags
import Derived.Deep.Cut
namespace Go.Proofs.YtekboemijafplaaDoor
open Go Go.RowKit
theorem row4 (w : World) (a b c d : Int) (t : TypeId) : ∃ W0, w.alloc (.cells #[.int .i64 a, .int .i64 b, .int .i64 c, .int .i64 d] t) = W0 ∧ Below w.heap.size w W0 ∧ w.heap.size < W0.heap.size ∧ ∀ j, j < 4 → ∃ X : Int, W0.cell? ⟨w.heap.size, j, none⟩ = some (.int .i64 X) := by
  refine ⟨_, rfl, one_new _ _, by simp, fun j hj => ?_⟩
  have h := heap_alloc_new w (.cells #[.int .i64 a, .int .i64 b, .int .i64 c, .int .i64 d] t)
  match j, hj with
  | 0, _ => exact ⟨a, by simp only [World.cell?, h]; rfl⟩
  | 1, _ => exact ⟨b, by simp only [World.cell?, h]; rfl⟩
  | 2, _ => exact ⟨c, by simp only [World.cell?, h]; rfl⟩
  | 3, _ => exact ⟨d, by simp only [World.cell?, h]; rfl⟩
theorem PL_QL : ∀ (n : Nat), ∀ a, 1 ≤ n → n ≤ 64 → PL a n = QL a n := fun n => Nat.strongRecOn n fun n ih => by
  intro a h1 h64
  by_cases h2 : 2 ≤ n
  · rw [PL_two a n h2, QL_two a n h2, hp_half h2 h64]
    have hl := hp_lt h2
    have hp := hp_pos n
    rw [hp_half h2 h64] at hl hp
    split
    · rw [ih _ hl _ hp (by omega)]
    · rw [ih _ (by omega) _ (by omega) (by omega)]
  · obtain rfl : n = 1 := by omega
    rw [PL_one, QL_one]
set_option maxRecDepth 100000 in
set_option maxHeartbeats 4000000 in
theorem places_any (v : Value) (bs : List UInt8) (i n : Int) (w : World) (hv : BV w v bs) (hk : KOK w) : Calls Tryd.prog 9 #[v, .int .i64 i, .int .i64 n] w (Ret (.bool true) w) := by
  have HV := Lib.hid hv
  have HK := Lib.hid hk
  clear hk hv
  obtain ⟨k, hkk⟩ : ∃ k, min bs.length 24 = k := ⟨_, rfl⟩
  have hk24 : k ≤ 24 := by omega
  go_enter Tryd.func9, Tryd.ntmps9
  go_wp2_with (first
    | (go_at_call 11; refine (sane_any _ HK.out).mono ?_; rintro e w1 ⟨rfl, hb1⟩; have HB1 := Lib.hid hb1; clear hb1))
  refine (digestsOf_any v bs w1 (HV.out.below HB1.out)).mono ?_
  rintro e w2 ⟨L, rfl, ho2, hb2, hob2⟩
  rw [hkk] at ho2
  have hl32 := dof_32 bs k
  have hlen := dof_len bs k
  generalize dof bs k = l at *
  have HL := Lib.hid (ownN_ld (by rw [hlen]; exact ho2) hl32)
  have HB2 := Lib.hid (HB1.out.trans (hb2.mono HB1.out.size))
  have H32 := Lib.hid hl32
  clear ho2 hb2 hob2 HB1 hl32
  obtain ⟨p, cap, rfl⟩ : ∃ p cap, L = .slice p k cap := by
    obtain ⟨b, cap, p, rfl, _⟩ := HL.out
    exact ⟨p, cap, by rw [hlen]⟩
  by_cases hout : i < 0 ∨ (k : Int) ≤ i
  · have hpn := path_no _ l i w2 (by rw [hlen]; exact hout) HL.out
    have hq : i < 0 ∨ (0 ≤ i ∧ (k : Int) ≤ i) := by omega
    have HP := Lib.hid hpn
    clear hpn hout
    rcases hq with hq | ⟨hq, hq2⟩
    all_goals
      go_wp2_with fail
      refine HP.out.mono ?_
      rintro e w3 ⟨rfl, hb3⟩
      have HB3 := Lib.hid (HB2.out.trans (hb3.mono HB2.out.size))
      clear hb3
      go_wp2_with fail
      go_ret
      exact ⟨rfl, HB3.out⟩
  obtain ⟨a, rfl⟩ : ∃ a : Nat, i = (a : Int) := ⟨i.toNat, by omega⟩
  have hak : a < k := by omega
  clear hout
  have hpo := path_ok l a _ w2 (by omega) (by omega) H32.out HL.out (HK.out.below HB2.out)
  have hpl := PA_len k l a hlen (by omega)
  have hp32 := PA_32 k l a hlen
  rw [PL_QL k a (by omega) (by omega)] at hpl
  have hQ24 := QL_lt k a (by omega)
  generalize PA l a = pa at *
  have HPO := Lib.hid hpo
  have HP32 := Lib.hid hp32
  clear hpo hp32
  go_wp2_with fail
  refine HPO.out.mono ?_
  rintro e w3 ⟨pv, rfl, ho3, hb3, hob3⟩
  have HPV := Lib.hid (ownN_ld ho3 HP32.out)
  have HB3 := Lib.hid (HB2.out.trans (hb3.mono HB2.out.size))
  have HL3 := Lib.hid (HL.out.below hb3)
  clear ho3 hob3 hb3 HPO HL
  obtain ⟨q, cq, rfl⟩ : ∃ q cq, pv = .slice q pa.length cq := by
    obtain ⟨b, cap, p, rfl, _⟩ := HPV.out
    exact ⟨p, cap, by rw [hpl]⟩
  have hst := steps_any a k w3 (by omega) (by omega) hak
  have HST := Lib.hid hst
  have HQR := Lib.hid (fun (c : Nat) (U : World) (h1 : 1 ≤ c) (h2 : c ≤ 1099511627776) (h3 : a < c) => steps_any a c U h1 h2 h3)
  clear hst
  have hq9 : QL a k ≤ 9223372036854775807 := by omega
  generalize hQ : QL a k = Q at *
  have c2 : ¬ (k : Int) ≤ (a : Int) := by omega
  go_wp2_with fail
  refine HST.out.mono ?_
  rintro e w4 ⟨rfl, hb4⟩
  have HB4 := Lib.hid (HB3.out.trans (hb4.mono HB3.out.size))
  have HL4 := Lib.hid (HL3.out.below hb4)
  have HPV4 := Lib.hid (HPV.out.below hb4)
  clear hb4 HL3 HPV HST
  go_wp2_with fail
  obtain ⟨W0, hW0, hB5, hlt5, hX⟩ := row4 w4 n (bits BinOp.and IntKind.i64 n 31) ((k : Int) + 1) (2 * (k : Int)) 3
  rw [hW0]
  have HX := Lib.hid hX
  have HB5 := Lib.hid (HB4.out.trans (hB5.mono HB4.out.size))
  have HL5 := Lib.hid (HL4.out.below hB5)
  have HPV5 := Lib.hid (HPV4.out.below hB5)
  clear hW0 hB5 hX HB4 HL4 HPV4
  generalize w4.heap.size = g at *
  have hdk : ∃ d, l[a]? = some d := ⟨_, List.getElem?_eq_getElem (by omega)⟩
  obtain ⟨d, hd⟩ := hdk
  have hd32 := Lib.hid (H32.out d (List.mem_of_getElem? hd))
  obtain ⟨b, o, rfl⟩ : ∃ b o, p = some ⟨b, o, none⟩ := by
    obtain ⟨b', cap', p', e, _, _, _, h4⟩ := HL5.out
    cases e
    rcases h4 with h4 | ⟨o, e, _⟩
    · rw [h4] at hd; simp at hd
    · exact ⟨b', o, e⟩
  have HDA := Lib.hid hd
  have hsd : (Tryd.prog.info? 26).map (·.size) = some (d.map byt).length := by rw [size26, List.length_map, hd32.out]
  clear hd
  go_loopw [62] (fun x wr => ∃ j : Nat, x = .int .i64 (j : Int) ∧ j ≤ 4 ∧ Hid (Below W0.heap.size W0 wr)) (fun x _ => 4 - (intOf x).toNat)
  case atStart => exact ⟨0, rfl, by omega, Lib.hid (Below.refl _ _)⟩
  case round =>
    obtain ⟨j, rfl, hj, HB⟩ := hrel
    by_cases hlt : j < 4
    · have c1 : (j : Int) < 4 := by omega
      obtain ⟨X, hXc⟩ := HX.out j hlt
      have x0 := (HB.out.cell (p := ⟨g, j, none⟩) hlt5).trans hXc
      clear hXc
      have HB6 := Lib.hid (HB5.out.trans (HB.out.mono HB5.out.size))
      have HL6 := Lib.hid (HL5.out.below HB.out)
      have HPV6 := Lib.hid (HPV5.out.below HB.out)
      have HR6 := Lib.hid (HL6.out.at H32.out a d HDA.out)
      by_cases hgood : (a : Int) < X ∧ X ≤ 1099511627776
      · obtain ⟨h1, h2⟩ := hgood
        obtain ⟨m, rfl⟩ : ∃ m : Nat, X = (m : Int) := ⟨X.toNat, by omega⟩
        have HS := Lib.hid (HQR.out m wr (by omega) (by omega) (by omega))
        by_cases hqm : QL a m = Q
        · have HC : Hid (∀ U, Below wr.heap.size wr U → Calls Tryd.prog 22 #[dgv d, .int .i64 (a : Int), .int .i64 (m : Int), .slice q Q cq] U (ClimbR (CX d a m pa) 0 U)) := Lib.hid fun U hU => climbx_ok d a m pa _ U (by omega) (by omega) (by omega) hd32.out HP32.out (by rw [hpl, hqm]) (by have h := HPV6.out.below hU; rwa [hpl] at h) (HK.out.below (HB6.out.trans (hU.mono HB6.out.size)))
          have hcx := CX_len d a m pa (by omega)
          generalize CX d a m pa = x at *
          have HX32 := Lib.hid hcx
          rw [hqm] at HS
          clear hcx
          go_upto_region 12 with fail
          go_upto_region 13 with (go_at_call 24; refine HS.out.mono ?_; rintro e w7 ⟨rfl, hb7⟩; have HB7 := Lib.hid hb7; clear hb7)
          have HR7 := Lib.hid ((HL6.out.below HB7.out).at H32.out a d HDA.out)
          go_wp2_with (first
            | (refine wpList_load_mid rfl 26 (.tmp 84) rfl b (o + a * 32) rfl (d.map byt) _ HR7.out Tryd.underlying26 rfl hsd ?_)
            | (go_at_call 22; refine (HC.out _ HB7.out).mono ?_; rintro e w8 ⟨rfl, hb8⟩; have HB8 := Lib.hid (HB7.out.trans (hb8.mono HB7.out.size)); clear hb8)
            | (refine dg_store rfl (.tmp 13) (.tmp 90) rfl w8.heap.size zeros x (zeros32 w8) (by simp [zeros]) HX32.out rfl rfl ?_; rintro w9 hd9 hc9; have HB9 := Lib.hid (HB8.out.trans ((chg_alloc_below hc9 rfl).mono HB8.out.size)); clear hc9))
          go_roundw
          case rel => exact ⟨j + 1, by go_num, by omega, Lib.hid (HB.out.trans (HB9.out.mono HB.out.size))⟩
          case measure => simp [intOf]; omega
        · have HC : Hid (∀ U, Below wr.heap.size wr U → Calls Tryd.prog 22 #[dgv d, .int .i64 (a : Int), .int .i64 (m : Int), .slice q Q cq] U (ClimbR zeros 1 U)) := Lib.hid fun U hU => climbx_len d a m q Q cq U (by omega) (by omega) (by omega) (fun e => hqm e.symm)
          have hne : ((QL a m : Nat) : Int) ≠ (Q : Int) := by omega
          have hne2 : (((QL a m : Nat) : Int) == (Q : Int)) = false := by simpa using hne
          generalize QL a m = r at *
          go_upto_region 13 with (go_at_call 24; refine HS.out.mono ?_; rintro e w7 ⟨rfl, hb7⟩; have HB7 := Lib.hid hb7; clear hb7)
          have HR7 := Lib.hid ((HL6.out.below HB7.out).at H32.out a d HDA.out)
          go_wp2_with (first
            | (refine wpList_load_mid rfl 26 (.tmp 84) rfl b (o + a * 32) rfl (d.map byt) _ HR7.out Tryd.underlying26 rfl hsd ?_)
            | (go_at_call 22; refine (HC.out _ HB7.out).mono ?_; rintro e w8 ⟨rfl, hb8⟩; have HB8 := Lib.hid (HB7.out.trans (hb8.mono HB7.out.size)); clear hb8)
            | (refine dg_store rfl (.tmp 13) (.tmp 90) rfl w8.heap.size zeros zeros (zeros32 w8) (by simp [zeros]) (by simp [zeros]) rfl rfl ?_; rintro w9 hd9 hc9; have HB9 := Lib.hid (HB8.out.trans ((chg_alloc_below hc9 rfl).mono HB8.out.size)); clear hc9))
          go_roundw
          case rel => exact ⟨j + 1, by go_num, by omega, Lib.hid (HB.out.trans (HB9.out.mono HB.out.size))⟩
          case measure => simp [intOf]; omega
      · have HC : Hid (∀ U, Below wr.heap.size wr U → Calls Tryd.prog 22 #[dgv d, .int .i64 (a : Int), .int .i64 X, .slice q Q cq] U (ClimbR zeros 1 U)) := Lib.hid fun U hU => climb_bad d (a : Int) X q Q cq U (by omega)
        have HB7 := Lib.hid (Below.refl wr.heap.size wr)
        have HR7 := HR6
        have hbad : ¬ (a : Int) < X ∨ ((a : Int) < X ∧ ¬ X ≤ 1099511627776) := by omega
        rcases hbad with h1 | ⟨h1, h2⟩
        all_goals
          go_wp2_with (first
            | (refine wpList_load_mid rfl 26 (.tmp 84) rfl b (o + a * 32) rfl (d.map byt) _ HR7.out Tryd.underlying26 rfl hsd ?_)
            | (go_at_call 22; refine (HC.out _ HB7.out).mono ?_; rintro e w8 ⟨rfl, hb8⟩; have HB8 := Lib.hid (HB7.out.trans (hb8.mono HB7.out.size)); clear hb8)
            | (refine dg_store rfl (.tmp 13) (.tmp 90) rfl w8.heap.size zeros zeros (zeros32 w8) (by simp [zeros]) (by simp [zeros]) rfl rfl ?_; rintro w9 hd9 hc9; have HB9 := Lib.hid (HB8.out.trans ((chg_alloc_below hc9 rfl).mono HB8.out.size)); clear hc9))
          go_roundw
          case rel => exact ⟨j + 1, by go_num, by omega, Lib.hid (HB.out.trans (HB9.out.mono HB.out.size))⟩
          case measure => simp [intOf]; omega
    · have c1 : ¬ (j : Int) < 4 := by omega
      go_wp2_with fail
      go_ret
      exact ⟨rfl, HB5.out.trans (HB.out.mono HB5.out.size)⟩
end Go.Proofs.YtekboemijafplaaDoor
