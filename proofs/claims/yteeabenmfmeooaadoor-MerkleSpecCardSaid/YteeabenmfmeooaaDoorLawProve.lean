/-
  Merkle: the law MerkleProve.
-/
import Derived.Test.YteeabenmfmeooaaDoorPp
import Derived.Test.YteeabenmfmeooaaDoorFe
import Derived.Test.YteeabenmfmeooaaDoorSn
import Derived.Test.YteeabenmfmeooaaDoorLawLength
import Derived.Deep.RegionHeld2
namespace Go.Proofs.YteeabenmfmeooaaDoor
open Go Go.RowKit
theorem d32_path (l : List (List UInt8)) (i : Nat) (hi : i < l.length) : D32 (pathL i l) := by
  rw [pathL_eq]
  have key : ∀ (n : Nat) (r : List (List UInt8)) (i : Nat), r.length = n → i < n → D32 r → D32 (pathR i r) := by
    intro n
    induction n using Nat.strongRecOn with
    | ind n ih =>
      intro r i hl hi h32
      by_cases h1 : 1 < n
      · rw [pathR_cons (by omega)]
        have hr := ih ((n + 1) / 2) (by omega) (nextL r) (i / 2) (by rw [nextL_len, hl]) (by omega) (nextL32 h32)
        split
        · simpa using hr
        · rename_i ha
          unfold aloneB at ha
          rw [decide_eq_true_eq] at ha
          intro d hd
          rcases List.mem_append.1 hd with h | h
          · simp at h
            subst h
            have ho : oth i < r.length := by omega
            rw [List.getElem?_eq_getElem ho]
            exact h32 _ (List.getElem_mem ho)
          · exact hr d h
      · rw [pathR_one (by omega)]
        intro d hd
        cases hd
  exact key _ _ i rfl (by rw [List.length_map]; exact hi) (leaf32 l)
theorem proveD_yes {l : List (List UInt8)} {a : Nat} (h : a < l.length) (hs : l.length ≤ 65536) : proveD l (a : Int) = pathL a l ∧ proveE l (a : Int) = 0 := by
  have hp : placeB (l.length : Int) (a : Int) = true := by
    unfold placeB
    simp
    omega
  unfold proveD proveE
  rw [if_pos hp, if_pos hp, Int.toNat_natCast]
  exact ⟨rfl, rfl⟩
theorem proveD_no {l : List (List UInt8)} {i : Int} (h : i < 0 ∨ (l.length : Int) ≤ i) : proveD l i = [] ∧ proveE l i = 1 := by
  have hp : ¬ placeB (l.length : Int) i = true := by
    unfold placeB
    simp
    omega
  unfold proveD proveE
  rw [if_neg hp, if_neg hp]
  exact ⟨rfl, rfl⟩
theorem climbD_yes {l : List (List UInt8)} {a : Nat} {x : List UInt8} (hx : l[a]? = some x) (hs : l.length ≤ 65536) : climbD (l.length : Int) (a : Int) x (pathL a l) = rootD l ∧ chkP (l.length : Int) (a : Int) (pathL a l).length = 0 := by
  have ha := (List.getElem?_eq_some_iff.1 hx).1
  have hc := climb_root l a x hx
  have hp : placeB (l.length : Int) (a : Int) = true := by
    unfold placeB
    simp
    omega
  have hk : chkP (l.length : Int) (a : Int) (pathL a l).length = 0 := by
    unfold chkP
    rw [if_pos hp, Int.toNat_natCast, Int.toNat_natCast, if_pos hc.2]
  refine ⟨?_, hk⟩
  unfold climbD rootD
  rw [if_pos hk, if_neg (by omega), Int.toNat_natCast, Int.toNat_natCast, hc.1]
set_option maxRecDepth 100000 in
set_option maxHeartbeats 4000000 in
theorem prove_law (v : Value) (l : List (List UInt8)) (i : Int) (w : World) (hv' : LB w v l) (hi : -9223372036854775808 ≤ i ∧ i ≤ 9223372036854775807) (hk : KOK w) : Calls Tryd.prog 5 #[v, .int .i64 i] w (Ret (.bool true) w) := by
  have HV := Lib.hid hv'
  have HK := Lib.hid hk
  have SN := Lib.hid (sane_any w hk)
  have FW := Lib.hid fun (U : World) (hb : Below w.heap.size w U) => few_any v l U (hv'.below hb)
  obtain ⟨p, c, hvf⟩ : ∃ p c, v = .slice p l.length c := by
    obtain ⟨_, c, p, e, _⟩ := hv'
    exact ⟨p, c, e⟩
  clear hv' hk
  cases hf : fewB l
  · rw [hf] at FW
    subst hvf
    go_enter Tryd.func5, Tryd.ntmps5
    go_wp2_with (first
      | (go_at_call 10; refine SN.out.mono ?_; rintro e w1 ⟨rfl, hb1⟩; have HB1 := Lib.hid hb1; clear SN)
      | (go_at_call 11; refine (FW.out _ HB1.out).mono ?_; rintro e w2 ⟨rfl, rfl⟩))
    go_ret
    exact ⟨rfl, HB1.out⟩
  have hfy := few_yes hf
  rw [hf] at FW
  have PR := Lib.hid fun (U : World) (hb : Below w.heap.size w U) => Prove_any v l i U (HV.out.below hb) (fun x hx => by have := hfy.2 x hx; omega) (HK.out.below hb)
  by_cases hin : 0 ≤ i ∧ i < (l.length : Int)
  · obtain ⟨a, rfl⟩ : ∃ a : Nat, i = (a : Int) := ⟨i.toNat, by omega⟩
    have ha : a < l.length := by omega
    obtain ⟨x, hx⟩ : ∃ x, l[a]? = some x := ⟨_, List.getElem?_eq_getElem ha⟩
    have hs : l.length ≤ 65536 := by omega
    have hpd := proveD_yes ha hs
    rw [hpd.1, hpd.2] at PR
    have hcd := climbD_yes hx hs
    have hpl : (pathL a l).length ≤ 16 := by rw [(climb_root l a x hx).2]; exact plen_16 hs
    have hp32 := d32_path l a ha
    have hxl := hfy.2 x (List.mem_of_getElem? hx)
    have hRl := rootD_len l
    have RT := Lib.hid fun (U : World) (hb : Below w.heap.size w U) => Root_any v l U (HV.out.below hb) (by omega) (fun x hx => by have := hfy.2 x hx; omega) (HK.out.below hb)
    have CM := Lib.hid fun (U : World) (u vx : Value) (hb : Below w.heap.size w U) (hbx : BV U vx x) (hu : LD U u (pathL a l)) => Climb_any (l.length : Int) (a : Int) vx u x (pathL a l) U hbx (by omega) hu hp32 (HK.out.below hb)
    rw [hcd.1, hcd.2] at CM
    have haI : ¬ (a : Int) < 0 := by omega
    have haL : ¬ (l.length : Int) ≤ (a : Int) := by omega
    have haL2 : (a : Int) < (l.length : Int) := by omega
    have hplI : ((pathL a l).length : Int) ≤ 16 := by omega
    obtain ⟨b, cap, p', hve, hc1, hc2, _, hc4⟩ := HV.out
    rcases hc4 with hnil | ⟨o, hp', hblt, hcc⟩
    · rw [hnil] at ha; simp at ha
    rw [hve] at hvf
    cases hvf
    subst hp'
    subst hve
    obtain ⟨vx, hvx, hbx⟩ := hcc a x hx
    have HBX := Lib.hid hbx
    have HCX := Lib.hid fun (U : World) (hb : Below w.heap.size w U) => (hb.cell (p := ⟨b, o + a, none⟩) hblt).trans hvx
    obtain ⟨p0, m0, c0, hvf⟩ : ∃ p0 m0 c0, vx = .slice p0 m0 c0 := by
      obtain ⟨_, c0, p0, e, _⟩ := hbx
      exact ⟨p0, _, c0, e⟩
    subst hvf
    have hu30 := Tryd.underlying30
    clear hcd hpd
    generalize pathL a l = P at *
    generalize rootD l = R at *
    have hsx : (Tryd.prog.info? 30).map (·.size) = some (R.map byt).length := by rw [size26, List.length_map, hRl]
    have heq : ∀ w, (Op.equalIn 10000 30 (dgv R) (dgv R)).run Tryd.prog w = .ok true w := fun w => by rw [dg_equal _ _ hRl hRl, beq_self_eq_true]
    clear hx hcc hbx hvx hin hi hf hfy hxl hs ha
    go_enter Tryd.func5, Tryd.ntmps5
    go_wp2_with (first
      | (go_at_call 10; refine SN.out.mono ?_; rintro e w1 ⟨rfl, hb1⟩; have HB1 := Lib.hid hb1; clear SN)
      | (go_at_call 11; refine (FW.out _ HB1.out).mono ?_; rintro e w2 ⟨rfl, rfl⟩; clear FW)
      | (go_at_call 12; refine (PR.out _ HB1.out).mono ?_; rintro e w3 ⟨v3, rfl, hR3⟩; obtain ⟨p3, c3, rfl⟩ := own_form hR3.out.own; have HB3 := Lib.hid (HB1.out.trans (hR3.out.below.mono HB1.out.size)); have HL3 := Lib.hid (own_ld hR3.out.own); have hcx := HCX.out _ HB3.out; clear PR hR3)
      | (go_at_call 17; refine (CM.out _ _ _ HB3.out (HBX.out.below HB3.out) HL3.out).mono ?_; rintro e w4 ⟨rfl, hb4⟩; have HB4 := Lib.hid (HB3.out.trans (hb4.mono HB3.out.size)); clear CM)
      | (refine dg_store rfl (.tmp 7) (.tmp 45) rfl w4.heap.size _ _ (zeros32 w4) (by simp) hRl rfl rfl ?_; rintro w5 hd5 hc5; have HB5 := Lib.hid (HB4.out.trans ((chg_alloc_below hc5 rfl).mono HB4.out.size))))
    have hr5 := dg_range hd5.out
    have D5 := Lib.hid (below_drew HB5.out)
    clear hd5 hc5 HB1 HB3 HB4 HCX HBX HL3 hp32
    generalize w4.heap.size = g4 at *
    have hr6 : w5.drew.rangeAt g4 0 (R.map byt) := hr5
    go_region_held2 (fun w' => w'.rangeAt g4 0 (R.map byt)) (go_keep_ranges) (first
      | (go_at_call 14; refine (RT.out _ D5.out).mono ?_; rintro e w6 ⟨rfl, hb6⟩; have HB6 := Lib.hid (D5.out.trans (hb6.mono D5.out.size)); have hr7 := range_below hr6 hb6; clear hb6))
    go_wp2_with fail
    go_ret
    exact ⟨rfl, HB6.out⟩
  · have ho : i < 0 ∨ (l.length : Int) ≤ i := by omega
    have hpd := proveD_no ho
    rw [hpd.1, hpd.2] at PR
    clear hpd hfy hf
    subst hvf
    rcases ho with ho | ho
    all_goals
      go_enter Tryd.func5, Tryd.ntmps5
      go_wp2_with (first
        | (go_at_call 10; refine SN.out.mono ?_; rintro e w1 ⟨rfl, hb1⟩; have HB1 := Lib.hid hb1; clear SN)
        | (go_at_call 11; refine (FW.out _ HB1.out).mono ?_; rintro e w2 ⟨rfl, rfl⟩; clear FW)
        | (go_at_call 12; refine (PR.out _ HB1.out).mono ?_; rintro e w3 ⟨v3, rfl, hR3⟩; obtain ⟨p3, c3, rfl⟩ := own_form hR3.out.own; have HB3 := Lib.hid (HB1.out.trans (hR3.out.below.mono HB1.out.size)); clear PR hR3))
      go_ret
      exact ⟨rfl, HB3.out⟩
end Go.Proofs.YteeabenmfmeooaaDoor
