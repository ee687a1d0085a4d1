/-
  Digest: the law DigestHalves.
-/
import Derived.Test.YtekboemijafplaaDoorPeel
namespace Go.Proofs.YtekboemijafplaaDoor
open Go Go.RowKit
set_option maxRecDepth 100000 in
set_option maxHeartbeats 1000000 in
theorem halves_zero (v : Value) (bs : List UInt8) (w : World) (hv : BV w v bs) (hk : KOK w) (hn : min bs.length 24 = 0) : Calls Tryd.prog 7 #[v] w (Ret (.bool true) w) := by
  have HV := Lib.hid hv
  have HK := Lib.hid hk
  clear hk hv
  have heq : ∀ w, (Op.equalIn 10000 26 (dgv (T [])) (dgv (T []))).run Tryd.prog w = .ok true w := fun w => by rw [dg_equal _ _ (T_len _) (T_len _), beq_self_eq_true]
  go_enter Tryd.func7, Tryd.ntmps7
  go_wp2_with (first
    | (go_at_call 11; refine (sane_any _ HK.out).mono ?_; rintro e w1 ⟨rfl, hb1⟩; have HB1 := Lib.hid hb1; clear hb1))
  refine (digestsOf_any v bs w1 (HV.out.below HB1.out)).mono ?_
  rintro e w2 ⟨L, rfl, ho2, hb2, hob2⟩
  rw [hn] at ho2
  have HL := Lib.hid (ownN_ld (l := []) ho2 (fun d hd => by cases hd))
  have HB2 := Lib.hid (HB1.out.trans (hb2.mono HB1.out.size))
  clear ho2 hb2 hob2 HB1
  obtain ⟨p, cap, rfl⟩ : ∃ p cap, L = .slice p 0 cap := by
    obtain ⟨b, cap, p, rfl, _⟩ := HL.out
    exact ⟨p, cap, rfl⟩
  go_wp2_with fail
  refine (tree_any [] _ w2 (by simp) (fun d hd => by cases hd) HL.out (HK.out.below HB2.out)).mono ?_
  rintro e w3 ⟨rfl, hb3⟩
  have HB3 := Lib.hid (HB2.out.trans (hb3.mono HB2.out.size))
  clear hb3
  go_wp2_with fail
  refine (tagged_any sEmpty _ [] _ (by decide) ⟨0, 0, none, rfl, Nat.le_refl _, by omega, fun _ => rfl, .inl rfl⟩ (by simp) (HK.out.below HB3.out)).mono ?_
  rintro e w4 ⟨rfl, hb4⟩
  rw [← T_nil]
  have HB4 := Lib.hid (HB3.out.trans (hb4.mono HB3.out.size))
  clear hb4
  go_wp2_with fail
  go_ret
  exact ⟨rfl, HB4.out⟩
set_option maxRecDepth 100000 in
set_option maxHeartbeats 1000000 in
theorem halves_one (v : Value) (bs : List UInt8) (w : World) (hv : BV w v bs) (hk : KOK w) (hn : min bs.length 24 = 1) : Calls Tryd.prog 7 #[v] w (Ret (.bool true) w) := by
  have HV := Lib.hid hv
  have HK := Lib.hid hk
  clear hk hv
  go_enter Tryd.func7, Tryd.ntmps7
  go_wp2_with (first
    | (go_at_call 11; refine (sane_any _ HK.out).mono ?_; rintro e w1 ⟨rfl, hb1⟩; have HB1 := Lib.hid hb1; clear hb1))
  refine (digestsOf_any v bs w1 (HV.out.below HB1.out)).mono ?_
  rintro e w2 ⟨L, rfl, ho2, hb2, hob2⟩
  rw [hn] at ho2
  obtain ⟨d, hd⟩ : ∃ d, dof bs 1 = [d] := ⟨dofN bs 0, rfl⟩
  have hd32 : d.length = 32 := dof_32 bs 1 d (by rw [hd]; simp)
  rw [hd] at ho2
  have D1 : D32 [d] := fun x hx => by simp at hx; rw [hx]; exact hd32
  have HL := Lib.hid (ownN_ld (l := [d]) ho2 D1)
  have HB2 := Lib.hid (HB1.out.trans (hb2.mono HB1.out.size))
  clear ho2 hb2 hob2 HB1
  obtain ⟨b, o, cap, rfl, hblt⟩ : ∃ b o cap, L = .slice (some ⟨b, o, none⟩) 1 cap ∧ b < w2.heap.size := by
    obtain ⟨b, cap, p, rfl, h1, h2, h3, h4⟩ := HL.out
    rcases h4 with h4 | ⟨o, rfl, h5, _⟩
    · cases h4
    · exact ⟨b, o, cap, rfl, h5⟩
  have hr := HL.out.at D1 0 d rfl
  rw [Nat.zero_mul] at hr
  have HR := Lib.hid hr
  have HD := Lib.hid D1
  clear hr D1
  have heq : ∀ w, (Op.equalIn 10000 26 (dgv (T [d])) (dgv (T [d]))).run Tryd.prog w = .ok true w := fun w => by rw [dg_equal _ _ (T_len _) (T_len _), beq_self_eq_true]
  have C := Lib.hid (tree_any [d] _ w2.drew (by simp) HD.out (HL.out.below (below_drew (Below.refl _ _))) (HK.out.below (below_drew HB2.out)))
  go_wp2_with fail
  go_region_law (first
    | (have _ := HB3; go_simp; go_at_call 14; refine (tagged_any sLeaf (.slice (some ⟨b, o, none⟩) 32 32) d w3 (by decide) ⟨b, 32, _, by rw [hd32], by rw [hd32]; exact Nat.le_refl _, by omega, (fun e => by cases e), .inr ⟨o, rfl, Nat.lt_of_lt_of_le hblt hs3, fun j c hj => range_below (w := w2.drew) HR.out hb3 j (byt c) (by rw [List.getElem?_map, hj]; rfl)⟩⟩ (by rw [hd32]; omega) (HK.out.below HB3.out)).mono ?_; rintro e w4 ⟨rfl, hb4⟩; rw [← T_one]; have HB4 := Lib.hid (HB3.out.trans (hb4.mono HB3.out.size)))
    | (go_simp; go_at_call 17; refine C.out.mono ?_; rintro e w3 ⟨rfl, hb3⟩; have HB3 := Lib.hid ((below_drew HB2.out).trans (hb3.mono HB2.out.size)); have hs3 : w2.heap.size ≤ w3.heap.size := hb3.size))
  go_wp2_with fail
  go_ret
  exact ⟨rfl, HB4.out⟩
set_option maxRecDepth 100000 in
set_option maxHeartbeats 8000000 in
theorem halves_two (v : Value) (bs : List UInt8) (w : World) (hv : BV w v bs) (hk : KOK w) (hn : 2 ≤ min bs.length 24) : Calls Tryd.prog 7 #[v] w (Ret (.bool true) w) := by
  have HV := Lib.hid hv
  have HK := Lib.hid hk
  clear hk hv
  go_enter Tryd.func7, Tryd.ntmps7
  go_wp2_with (first
    | (go_at_call 11; refine (sane_any _ HK.out).mono ?_; rintro e w1 ⟨rfl, hb1⟩; have HB1 := Lib.hid hb1; clear hb1))
  refine (digestsOf_any v bs w1 (HV.out.below HB1.out)).mono ?_
  rintro e w2 ⟨L, rfl, ho2, hb2, hob2⟩
  have hm : min bs.length 24 ≤ 24 := Nat.min_le_right _ _
  generalize hN : min bs.length 24 = n at *
  have HL := Lib.hid (ownN_ld (l := dof bs n) (by rw [dof_len]; exact ho2) (dof_32 bs n))
  have hLl := dof_len bs n
  have H32 := Lib.hid (dof_32 bs n)
  have HB2 := Lib.hid (HB1.out.trans (hb2.mono HB1.out.size))
  clear ho2 hb2 hob2 HB1
  generalize dof bs n = l at *
  have hform : ∃ b o cap, L = .slice (some ⟨b, o, none⟩) n cap ∧ n ≤ cap ∧ cap ≤ maxLen := by
    obtain ⟨b, cap, p, rfl, h1, h2, h3, h4⟩ := HL.out
    rcases h4 with rfl | ⟨o, rfl, _⟩
    · simp at hLl; omega
    · exact ⟨b, o, cap, by rw [hLl], by omega, h2⟩
  obtain ⟨b, o, cap, rfl, hcap, hmax⟩ := hform
  unfold maxLen at hmax
  have hn0 : ((n : Int) == 0) = false := by simp; omega
  have hn1 : ((n : Int) == 1) = false := by simp; omega
  go_wp2_with fail
  go_loopw [4] (fun i wr => ∃ k : Nat, (k = 1 ∨ k = 2 ∨ k = 4 ∨ k = 8 ∨ k = 16) ∧ k < n ∧ i = .int .i64 k ∧ wr = w2) (fun i _ => 64 - (intOf i).toNat)
  case atStart => exact ⟨1, by omega, by omega, by first | rfl | trivial, by first | rfl | trivial⟩
  case round =>
    obtain ⟨k, hk, hkn, rfl, rfl⟩ := hrel
    by_cases h2 : 2 * k < n
    · have c1 : decide ((2 : Int) * (k : Int) < (n : Int)) = true := by simp; omega
      go_wp2_with fail
      go_roundw
      case rel => exact ⟨k * 2, by omega, by omega, by go_num, by first | rfl | trivial⟩
      case measure => simp [intOf]; omega
    · have hkh := half_loop hk hkn h2 (by omega)
      have c1 : decide ((2 : Int) * (k : Int) < (n : Int)) = false := by simp; omega
      have e : ∀ x : Nat, x = half n → x = half n := fun _ h => h
      go_wp2_with fail
      rw [hkh] at *
      clear e hkh c1 h2 hk
      have hh := half_lt (n := n) (by omega)
      have hp := half_pos n
      have i1 : ((half n : Nat) : Int) ≤ (cap : Int) := by omega
      have i2 : ((half n : Nat) : Int) ≤ (n : Int) := by omega
      have i3 : (n : Int) ≤ (cap : Int) := by omega
      have hcn : ¬ (cap = half n) := by omega
      have hva := HL.out.pre (half n) (by rw [hLl]; omega)
      have hvb := HL.out.suf H32.out (half n) (by rw [hLl]; omega)
      have hta : (l.take (half n)).length = half n := by rw [List.length_take, hLl]; omega
      have htb : (l.drop (half n)).length = n - half n := by rw [List.length_drop, hLl]
      have CA := Lib.hid (fun (U : World) (hb : Below wr.heap.size wr U) => tree_any (l.take (half n)) _ U (by rw [hta]; omega) (H32.out.take _) (hva.below hb) (HK.out.below (HB2.out.trans (hb.mono HB2.out.size))))
      have CB := Lib.hid (fun (U : World) (hb : Below wr.heap.size wr U) => tree_any (l.drop (half n)) _ U (by rw [htb]; omega) (H32.out.drop _) (hvb.below hb) (HK.out.below (HB2.out.trans (hb.mono HB2.out.size))))
      have B0 := Lib.hid (below_drew (Below.refl wr.heap.size wr))
      have B1 := Lib.hid (below_drew (one_new wr Z26))
      have B2 := Lib.hid (below_drew (bel_alloc (one_new wr Z26) (Nat.le_refl _) (o := Z26)))
      clear hva hvb hta htb
      have hsA := fun (U : World) (g : Nat) (h : Dg U g zeros) => store_dg h (by simp [zeros]) (T_len (l.take (half n)))
      have hsB := fun (U : World) (g : Nat) (h : Dg U g zeros) => store_dg h (by simp [zeros]) (T_len (l.drop (half n)))
      have hlA := T_len (l.take (half n))
      have hlB := T_len (l.drop (half n))
      have r1 : ∀ W : World, Dg (W.alloc (.cells (#[.int .u8 0, .int .u8 0, .int .u8 0, .int .u8 0, .int .u8 0, .int .u8 0, .int .u8 0, .int .u8 0, .int .u8 0, .int .u8 0, .int .u8 0, .int .u8 0, .int .u8 0, .int .u8 0, .int .u8 0, .int .u8 0, .int .u8 0, .int .u8 0, .int .u8 0, .int .u8 0, .int .u8 0, .int .u8 0, .int .u8 0, .int .u8 0, .int .u8 0, .int .u8 0, .int .u8 0, .int .u8 0, .int .u8 0, .int .u8 0, .int .u8 0, .int .u8 0] : Array Value) 26)) W.heap.size zeros := zeros32
      have r3 : ∀ W : World, Dg ((W.alloc (.cells (#[.int .u8 0, .int .u8 0, .int .u8 0, .int .u8 0, .int .u8 0, .int .u8 0, .int .u8 0, .int .u8 0, .int .u8 0, .int .u8 0, .int .u8 0, .int .u8 0, .int .u8 0, .int .u8 0, .int .u8 0, .int .u8 0, .int .u8 0, .int .u8 0, .int .u8 0, .int .u8 0, .int .u8 0, .int .u8 0, .int .u8 0, .int .u8 0, .int .u8 0, .int .u8 0, .int .u8 0, .int .u8 0, .int .u8 0, .int .u8 0, .int .u8 0, .int .u8 0] : Array Value) 26)).alloc (.cells (#[.int .u8 0, .int .u8 0, .int .u8 0, .int .u8 0, .int .u8 0, .int .u8 0, .int .u8 0, .int .u8 0, .int .u8 0, .int .u8 0, .int .u8 0, .int .u8 0, .int .u8 0, .int .u8 0, .int .u8 0, .int .u8 0, .int .u8 0, .int .u8 0, .int .u8 0, .int .u8 0, .int .u8 0, .int .u8 0, .int .u8 0, .int .u8 0, .int .u8 0, .int .u8 0, .int .u8 0, .int .u8 0, .int .u8 0, .int .u8 0, .int .u8 0, .int .u8 0] : Array Value) 26)) (W.heap.size + 1) zeros := fun W => by have := zeros32 (W.alloc (.cells (#[.int .u8 0, .int .u8 0, .int .u8 0, .int .u8 0, .int .u8 0, .int .u8 0, .int .u8 0, .int .u8 0, .int .u8 0, .int .u8 0, .int .u8 0, .int .u8 0, .int .u8 0, .int .u8 0, .int .u8 0, .int .u8 0, .int .u8 0, .int .u8 0, .int .u8 0, .int .u8 0, .int .u8 0, .int .u8 0, .int .u8 0, .int .u8 0, .int .u8 0, .int .u8 0, .int .u8 0, .int .u8 0, .int .u8 0, .int .u8 0, .int .u8 0, .int .u8 0] : Array Value) 26)); rw [World.size_alloc] at this; exact this
      have r6 : ∀ W : World, Dg ((W.alloc (.cells (#[.int .u8 0, .int .u8 0, .int .u8 0, .int .u8 0, .int .u8 0, .int .u8 0, .int .u8 0, .int .u8 0, .int .u8 0, .int .u8 0, .int .u8 0, .int .u8 0, .int .u8 0, .int .u8 0, .int .u8 0, .int .u8 0, .int .u8 0, .int .u8 0, .int .u8 0, .int .u8 0, .int .u8 0, .int .u8 0, .int .u8 0, .int .u8 0, .int .u8 0, .int .u8 0, .int .u8 0, .int .u8 0, .int .u8 0, .int .u8 0, .int .u8 0, .int .u8 0] : Array Value) 26)).alloc (.cells (#[.int .u8 0, .int .u8 0, .int .u8 0, .int .u8 0, .int .u8 0, .int .u8 0, .int .u8 0, .int .u8 0, .int .u8 0, .int .u8 0, .int .u8 0, .int .u8 0, .int .u8 0, .int .u8 0, .int .u8 0, .int .u8 0, .int .u8 0, .int .u8 0, .int .u8 0, .int .u8 0, .int .u8 0, .int .u8 0, .int .u8 0, .int .u8 0, .int .u8 0, .int .u8 0, .int .u8 0, .int .u8 0, .int .u8 0, .int .u8 0, .int .u8 0, .int .u8 0] : Array Value) 26)) W.heap.size zeros := fun W => box_alloc (zeros32 W)
      have r2 : ∀ (W : World) (g : Nat), g < W.heap.size → (Dg (W.alloc (.cells (#[.int .u8 0, .int .u8 0, .int .u8 0, .int .u8 0, .int .u8 0, .int .u8 0, .int .u8 0, .int .u8 0, .int .u8 0, .int .u8 0, .int .u8 0, .int .u8 0, .int .u8 0, .int .u8 0, .int .u8 0, .int .u8 0, .int .u8 0, .int .u8 0, .int .u8 0, .int .u8 0, .int .u8 0, .int .u8 0, .int .u8 0, .int .u8 0, .int .u8 0, .int .u8 0, .int .u8 0, .int .u8 0, .int .u8 0, .int .u8 0, .int .u8 0, .int .u8 0] : Array Value) 26)) g zeros ↔ Dg W g zeros) := fun W g h => by unfold Dg; rw [heap_alloc_old W _ h]
      have r4 : ∀ (W : World) (g g' : Nat) (c : Array Value), ¬ g = g' → (Dg (W.setRow g' c) g zeros ↔ Dg W g zeros) := fun W g g' c hg => by unfold Dg; rw [setRow_other W g' g c hg]
      have r5 : ∀ (W : World) (g : Nat) (c : Array Value), (Dg (W.setRow (g + 1) c) g zeros ↔ Dg W g zeros) := fun W g c => r4 W g (g + 1) c (by omega)
      have sz2 := HB2.out.size
      have Z1 : (wr.alloc Z26).drew.heap.size = wr.heap.size + 1 := World.size_alloc wr Z26
      have Z2 : ((wr.alloc Z26).alloc Z26).drew.heap.size = wr.heap.size + 2 := (World.size_alloc (wr.alloc Z26) Z26).trans (by rw [World.size_alloc])
      go_region_law (first
        | (have _ := b3; go_simp; go_at_call 17; refine (CB.out w3 b3.out).mono ?_; rintro e w4 ⟨rfl, hb4⟩; have b4 := Lib.hid (b3.out.trans (hb4.mono b3.out.size)); have s4 := hb4.size; (try have g1 := f1.below hb4); (try have g2 := f2.below hb4); (try have v1 : wr.heap.size < w4.heap.size := by omega); (try have v2 : wr.heap.size + 1 < w4.heap.size := by omega); (try have v3 : w3.heap.size < w4.heap.size := by omega); (try have v4 : w3.heap.size + 1 < w4.heap.size := by omega); (try have u1 : ¬ wr.heap.size = w3.heap.size := by omega); (try have u2 : ¬ w3.heap.size = wr.heap.size := by omega); (try have u3 : ¬ wr.heap.size = w4.heap.size := by omega); (try have u4 : ¬ w4.heap.size = wr.heap.size := by omega); (try have u5 : ¬ w3.heap.size = w4.heap.size := by omega); (try have u6 : ¬ w4.heap.size = w3.heap.size := by omega); clear hb4)
        | (have _ := b3; go_simp; go_at_call 17; refine (CB.out (w3.alloc Z26) (bel_alloc b3.out (Nat.le_refl _))).mono ?_; rintro e w4 ⟨rfl, hb4⟩; have b4 := Lib.hid ((bel_alloc b3.out (Nat.le_refl _)).trans (hb4.mono (bel_alloc (o := Z26) b3.out (Nat.le_refl _)).size)); have s4 := hb4.size; rw [World.size_alloc] at s4; (try have g1 := (box_alloc (o := Z26) f1).below hb4); have k1 : Dg w4 w3.heap.size zeros := (zeros32 w3).below hb4; (try have v1 : wr.heap.size < w4.heap.size := by omega); (try have v2 : wr.heap.size + 1 < w4.heap.size := by omega); (try have v3 : w3.heap.size < w4.heap.size := by omega); (try have v4 : w3.heap.size + 1 < w4.heap.size := by omega); (try have u1 : ¬ wr.heap.size = w3.heap.size := by omega); (try have u2 : ¬ w3.heap.size = wr.heap.size := by omega); (try have u3 : ¬ wr.heap.size = w4.heap.size := by omega); (try have u4 : ¬ w4.heap.size = wr.heap.size := by omega); (try have u5 : ¬ w3.heap.size = w4.heap.size := by omega); (try have u6 : ¬ w4.heap.size = w3.heap.size := by omega); clear hb4)
        | (have _ := b3; go_simp; go_at_call 17; refine (CB.out ((w3.alloc Z26).alloc Z26) (bel_alloc (bel_alloc b3.out (Nat.le_refl _)) (Nat.le_refl _))).mono ?_; rintro e w4 ⟨rfl, hb4⟩; have b4 := Lib.hid ((bel_alloc (bel_alloc b3.out (Nat.le_refl _)) (Nat.le_refl _)).trans (hb4.mono (bel_alloc (o := Z26) (bel_alloc (o := Z26) b3.out (Nat.le_refl _)) (Nat.le_refl _)).size)); have s4 := hb4.size; rw [World.size_alloc, World.size_alloc] at s4; have k1 : Dg w4 w3.heap.size zeros := (box_alloc (o := Z26) (zeros32 w3)).below hb4; have k2 : Dg w4 (w3.heap.size + 1) zeros := Dg.below (by have := zeros32 (w3.alloc Z26); rw [World.size_alloc] at this; exact this) hb4; (try have v1 : wr.heap.size < w4.heap.size := by omega); (try have v2 : wr.heap.size + 1 < w4.heap.size := by omega); (try have v3 : w3.heap.size < w4.heap.size := by omega); (try have v4 : w3.heap.size + 1 < w4.heap.size := by omega); (try have u1 : ¬ wr.heap.size = w3.heap.size := by omega); (try have u2 : ¬ w3.heap.size = wr.heap.size := by omega); (try have u3 : ¬ wr.heap.size = w4.heap.size := by omega); (try have u4 : ¬ w4.heap.size = wr.heap.size := by omega); (try have u5 : ¬ w3.heap.size = w4.heap.size := by omega); (try have u6 : ¬ w4.heap.size = w3.heap.size := by omega); clear hb4)
        | (go_simp; go_at_call 17; refine (CA.out wr.drew B0.out).mono ?_; rintro e w3 ⟨rfl, hb3⟩; have b3 := Lib.hid (B0.out.trans (hb3.mono B0.out.size)); have s3 := b3.out.size; clear hb3)
        | (go_simp; go_at_call 17; refine (CA.out (wr.alloc Z26).drew B1.out).mono ?_; rintro e w3 ⟨rfl, hb3⟩; have b3 := Lib.hid (B1.out.trans (hb3.mono B1.out.size)); have s3 : wr.heap.size + 1 ≤ w3.heap.size := Nat.le_trans (Nat.le_of_eq Z1.symm) hb3.size
           have f1 : Dg w3 wr.heap.size zeros := Dg.below (w := (wr.alloc Z26).drew) (zeros32 wr) hb3; clear hb3)
        | (go_simp; go_at_call 17; refine (CA.out ((wr.alloc Z26).alloc Z26).drew B2.out).mono ?_; rintro e w3 ⟨rfl, hb3⟩; have b3 := Lib.hid (B2.out.trans (hb3.mono B2.out.size)); have s3 : wr.heap.size + 2 ≤ w3.heap.size := Nat.le_trans (Nat.le_of_eq Z2.symm) hb3.size
           have f1 : Dg w3 wr.heap.size zeros := Dg.below (w := ((wr.alloc Z26).alloc Z26).drew) (box_drew (box_alloc (zeros32 wr))) hb3
           have f2 : Dg w3 (wr.heap.size + 1) zeros := Dg.below (w := ((wr.alloc Z26).alloc Z26).drew) (r3 wr) hb3; clear hb3))
      all_goals
        refine fin_step (K := fun U => Exit.then _ _ _ _ U) (m := wr.heap.size) (w := wr) (X := _) (a := T (l.take (half n))) (b := T (l.drop (half n))) ?h5 ?h6 ?hne ?hb (Nat.le_refl _) ?i5 ?i6 ?hk
        case h5 => first | assumption | exact r1 _ | exact r3 _ | exact r6 _ | exact (r2 _ _ (by omega)).2 (by first | assumption | exact r1 _)
        case h6 => first | assumption | exact r1 _ | exact r3 _ | exact r6 _ | exact (r2 _ _ (by omega)).2 (by first | assumption | exact r1 _)
        case hne => omega
        case hb => first | exact b4.out | exact bel_alloc b4.out (Nat.le_refl _) | exact bel_alloc (bel_alloc b4.out (Nat.le_refl _)) (Nat.le_refl _)
        case i5 => omega
        case i6 => omega
        case hk =>
          intro U hA hB hbU
          have HUA := Lib.hid hA
          have HUB := Lib.hid hB
          have HBU := Lib.hid (HB2.out.trans (hbU.mono HB2.out.size))
          have hlB := (Array.getElem?_eq_some_iff.1 hB).1
          have C17 := Lib.hid (fun (V : World) (h : Below U.heap.size U V) => tree_any l _ V (by omega) H32.out ((HL.out.below hbU).below h) (HK.out.below (HBU.out.trans (h.mono HBU.out.size))))
          have hT := T_node l (by omega)
          rw [hLl] at hT
          have HT := Lib.hid hT
          have heq : ∀ w, (Op.equalIn 10000 26 (dgv (T l)) (dgv (T l))).run Tryd.prog w = .ok true w := fun w => by rw [dg_equal _ _ (T_len _) (T_len _), beq_self_eq_true]
          have D0 := Lib.hid (below_drew (Below.refl U.heap.size U))
          have D1 := Lib.hid (below_drew (one_new U (.cells #[] 5)))
          have sU := HBU.out.size
          clear hA hB hbU hT CA CB B0 B1 B2 hsA hsB hlA r1 r3 r6 r2 r4 r5 Z1 Z2
          (try clear f1)
          (try clear f2)
          (try clear g1)
          (try clear g2)
          (try clear k1)
          (try clear k2)
          go_wp2_with fail
          go_region_law (first
            | (have _ := HB6; go_simp; go_at_call 14; refine (tagged_any sNode v6 (T (l.take (half n)) ++ T (l.drop (half n))) w6 (by decide) (own_bv ho6.out) (by rw [List.length_append, T_len, T_len]; omega) (HK.out.below HB6.out)).mono ?_; rintro e w7 ⟨rfl, hb7⟩; rw [← HT.out]; have HB7 := Lib.hid (HB6.out.trans (hb7.mono HB6.out.size)); clear hb7 HB6)
            | (have _ := HB5; refine bytes_step rfl (.tmp 47) (.tmp 48) rfl v5 (.slice (some ⟨_, 0, none⟩) 32 32) (T (l.take (half n))) (T (l.drop (half n))) (by simp [Act.eval, Act.put]) ho5.out rfl (dg_bv HD5.out (T_len _)) (by rw [T_len, T_len]; omega) ?_; intro v6 w6 ho6 hg6 hv6; have HB6 := Lib.hid (grown_below HB5.out HB5.out.size hg6 hv5); clear hg6 hv6)
            | (have _ := HOB; refine bytes_step rfl (.tmp 45) (.tmp 46) rfl (.slice (some ⟨U.heap.size, 0, none⟩) 0 0) (.slice (some ⟨_, 0, none⟩) 32 32) [] (T (l.take (half n))) (by simp [Act.eval, Act.put]) HOB.out rfl (dg_bv (HUA.out.below HU5.out) (T_len _)) (by rw [T_len]; simp) ?_; intro v5 w5 ho5 hg5 hv5'
               have HB5 := Lib.hid (grown_below HBX.out HBX.out.size hg5 (fun k e => by cases e; exact sU))
               have HD5 := Lib.hid (keep_grown (HUB.out.below HU5.out) hg5 (fun k e => by cases e; show _ ≠ U.heap.size; omega))
               have hv5 : ∀ k, v5.ownBlock = some k → w.heap.size ≤ k := fun k e => by
                 have h4 := HBX.out.size
                 rcases hv5' with h | ⟨k', h, h'⟩
                 · rw [h] at e; cases e; exact sU
                 · rw [h] at e; cases e; omega
               clear hg5 hv5')
            | (have _ := HU5; refine bytes_step rfl (.tmp 45) (.tmp 46) rfl (.slice (some ⟨w5'.heap.size, 0, none⟩) 0 0) (.slice (some ⟨_, 0, none⟩) 32 32) [] (T (l.take (half n))) (by simp [Act.eval, Act.put]) (own_empty w5') rfl (dg_bv ((HUA.out.below HU5.out).below (one_new w5' _)) (T_len _)) (by rw [T_len]; simp) ?_; intro v5 w5 ho5 hg5 hv5'
               have hs5 := World.size_alloc w5' (.cells #[] 5)
               have hs6 := HU5.out.size
               have hbx := HBX.out.trans ((one_new w5' (.cells #[] 5)).mono HBX.out.size)
               have HB5 := Lib.hid (grown_below hbx hbx.size hg5 (fun k e => by cases e; exact HBX.out.size))
               have HD5 := Lib.hid (keep_grown ((HUB.out.below HU5.out).below (one_new w5' _)) hg5 (fun k e => by cases e; show _ ≠ w5'.heap.size; omega))
               have hv5 : ∀ k, v5.ownBlock = some k → w.heap.size ≤ k := fun k e => by
                 have h4 := HBX.out.size
                 rcases hv5' with h | ⟨k', h, h'⟩
                 · rw [h] at e; cases e; exact h4
                 · rw [h] at e; cases e; omega
               clear hg5 hv5' hbx)
            | (go_simp; go_at_call 17; refine (C17.out (U.alloc (.cells #[] 5)).drew D1.out).mono ?_; rintro e w5' ⟨rfl, hb5⟩; have HU5 := Lib.hid (D1.out.trans (hb5.mono D1.out.size)); have HBX := Lib.hid (HBU.out.trans (HU5.out.mono HBU.out.size))
               have HOB : Hid (Own w5' (.slice (some ⟨U.heap.size, 0, none⟩) 0 0) (([] : List UInt8).map byt)) := Lib.hid (Own.keep (own_empty U) (Nat.le_trans (Nat.le_refl (U.alloc (.cells #[] 5)).heap.size) hb5.size) (fun k e => by cases e; exact hb5.block _ (Nat.lt_of_lt_of_eq (Nat.lt_succ_self U.heap.size) (World.size_alloc U (.cells #[] 5)).symm)))
               clear hb5)
            | (go_simp; go_at_call 17; refine (C17.out U.drew D0.out).mono ?_; rintro e w5' ⟨rfl, hb5⟩; have HU5 := Lib.hid (D0.out.trans (hb5.mono D0.out.size)); have HBX := Lib.hid (HBU.out.trans (HU5.out.mono HBU.out.size)); clear hb5))
          all_goals
            go_wp2_with fail
            go_ret
            exact ⟨rfl, HB7.out⟩
theorem halves_any (v : Value) (bs : List UInt8) (w : World) (hv : BV w v bs) (hk : KOK w) : Calls Tryd.prog 7 #[v] w (Ret (.bool true) w) := by
  by_cases h0 : min bs.length 24 = 0
  · exact halves_zero v bs w hv hk h0
  by_cases h1 : min bs.length 24 = 1
  · exact halves_one v bs w hv hk h1
  exact halves_two v bs w hv hk (by omega)
end Go.Proofs.YtekboemijafplaaDoor
