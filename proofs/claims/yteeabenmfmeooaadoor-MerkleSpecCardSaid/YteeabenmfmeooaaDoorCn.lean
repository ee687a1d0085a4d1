/-
  Merkle: Collide, where it returns nothing.
-/
import Derived.Test.YteeabenmfmeooaaDoorBq
import Derived.Test.YteeabenmfmeooaaDoorEq
namespace Go.Proofs.YteeabenmfmeooaaDoor
open Go Go.RowKit
def NoneR (w : World) (e : Ending) (w' : World) : Prop := e = .returned (.tuple #[.slice none 0 0, .slice none 0 0, .bool false]) ∧ Below w.heap.size w w'
/-- does Collide have something to return? -/
def collB (n i : Int) (a b : List UInt8) (p q : List (List UInt8)) : Bool := decide (chkP n i p.length = 0) && (decide (chkP n i q.length = 0) && (!(a == b) && (climbD n i a p == climbD n i b q)))
set_option maxRecDepth 100000 in
set_option maxHeartbeats 2000000 in
theorem collide_no (n i : Int) (u v x y : Value) (a b : List UInt8) (p q : List (List UInt8)) (w : World) (hu : BV w u a) (hv' : BV w v b) (ha : a.length ≤ 1000000) (hb : b.length ≤ 1000000) (hx : LD w x p) (hy : LD w y q) (hp : D32 p) (hq : D32 q) (hk : KOK w) (hno : collB n i a b p q = false) :
    Calls Tryd.prog 33 #[hv, .int .i64 n, .int .i64 i, u, v, x, y] w (NoneR w) := by
  have HU := Lib.hid hu
  have HV := Lib.hid hv'
  have HX := Lib.hid hx
  have HY := Lib.hid hy
  have HK := Lib.hid hk
  have H32 := Lib.hid (⟨hp, hq⟩ : D32 p ∧ D32 q)
  obtain ⟨p1, c1, rfl⟩ : ∃ p c, u = .slice p a.length c := by
    obtain ⟨_, c, p, e, _⟩ := hu
    exact ⟨p, c, e⟩
  obtain ⟨p2, c2, rfl⟩ : ∃ p c, v = .slice p b.length c := by
    obtain ⟨_, c, p, e, _⟩ := hv'
    exact ⟨p, c, e⟩
  obtain ⟨b3, c3, p3, rfl, h31, h32, _, _⟩ := hx
  obtain ⟨b4, c4, p4, rfl, h41, h42, _, _⟩ := hy
  have C1 := Lib.hid fun (U : World) => checkPath_any n i p3 p.length c3 U h31 h32
  have C2 := Lib.hid fun (U : World) => checkPath_any n i p4 q.length c4 U h41 h42
  have EQ := Lib.hid fun (U : World) (hb' : Below w.heap.size w U) => equal_any _ _ a b U (HU.out.below hb') (HV.out.below hb')
  clear hu hv' hk hp hq
  by_cases z1 : chkP n i p.length = 0
  · by_cases z2 : chkP n i q.length = 0
    · by_cases hab : (a == b) = true
      · rw [z1] at C1
        rw [z2] at C2
        rw [hab] at EQ
        clear hno z1 z2 hab
        go_enter Tryd.func33, Tryd.ntmps33
        go_wp2_with (first
          | (go_at_call 29; refine (C1.out _).mono ?_; rintro e w1 ⟨rfl, hb1⟩; have HB1 := Lib.hid hb1; clear C1)
          | (go_at_call 29; refine (C2.out _).mono ?_; rintro e w2 ⟨rfl, hb2⟩; have HB2 := Lib.hid (HB1.out.trans (hb2.mono HB1.out.size)))
          | (go_at_call 50; refine (EQ.out _ HB2.out).mono ?_; rintro e w3 ⟨rfl, rfl⟩))
        go_ret3
        exact ⟨rfl, HB2.out⟩
      · have hab : (a == b) = false := by simpa using hab
        have hcl : (climbD n i a p == climbD n i b q) = false := by
          unfold collB at hno
          rw [decide_eq_true z1, decide_eq_true z2, hab] at hno
          simpa using hno
        obtain ⟨j, s, rfl, rfl, hjs, hs, e1⟩ := chk_zero z1
        have e2 : q.length = plen j s := by
          unfold chkP at z2
          by_cases hpl : placeB (s : Int) (j : Int) = true
          · rw [if_pos hpl] at z2
            by_cases hm : q.length = plen (Int.toNat (j : Int)) (Int.toNat (s : Int))
            · exact hm
            · rw [if_neg hm] at z2
              cases z2
          · rw [if_neg hpl] at z2
            cases z2
        have d1 : climbD (s : Int) (j : Int) a p = climbB j s a p := by unfold climbD; rw [if_pos z1]; rfl
        have d2 : climbD (s : Int) (j : Int) b q = climbB j s b q := by unfold climbD; rw [if_pos z2]; rfl
        rw [d1, d2] at hcl
        rw [z1] at C1
        rw [z2] at C2
        rw [hab] at EQ
        have M1 := Lib.hid fun (U : World) (hb' : Below w.heap.size w U) => climb_any s j _ _ a p U hs hjs (HU.out.below hb') ha (HX.out.below hb') H32.out.1 e1 (HK.out.below hb')
        have M2 := Lib.hid fun (U : World) (hb' : Below w.heap.size w U) => climb_any s j _ _ b q U hs hjs (HV.out.below hb') hb (HY.out.below hb') H32.out.2 e2 (HK.out.below hb')
        have DE := fun (U : World) => dg_equal _ _ (climb_len j s a p) (climb_len j s b q) U
        rw [hcl] at DE
        clear hno z1 z2 hab e1 e2 d1 d2 hcl
        generalize climbB j s a p = dA at *
        generalize climbB j s b q = dB at *
        go_enter Tryd.func33, Tryd.ntmps33
        go_wp2_with (first
          | (go_at_call 29; refine (C1.out _).mono ?_; rintro e w1 ⟨rfl, hb1⟩; have HB1 := Lib.hid hb1; clear C1)
          | (go_at_call 29; refine (C2.out _).mono ?_; rintro e w2 ⟨rfl, hb2⟩; have HB2 := Lib.hid (HB1.out.trans (hb2.mono HB1.out.size)))
          | (go_at_call 50; refine (EQ.out _ HB2.out).mono ?_; rintro e w3 ⟨rfl, rfl⟩)
          | (go_at_call 30; refine (M1.out _ HB2.out).mono ?_; rintro e w4 ⟨rfl, hb4⟩; have HB4 := Lib.hid (HB2.out.trans (hb4.mono HB2.out.size)); clear M1)
          | (go_at_call 30; refine (M2.out _ HB4.out).mono ?_; rintro e w5 ⟨rfl, hb5⟩; have HB5 := Lib.hid (HB4.out.trans (hb5.mono HB4.out.size))))
        go_ret3
        exact ⟨rfl, HB5.out⟩
    · generalize chkP n i q.length = ec at *
      rw [z1] at C1
      clear hno z1
      go_enter Tryd.func33, Tryd.ntmps33
      go_wp2_with (first
        | (go_at_call 29; refine (C1.out _).mono ?_; rintro e w1 ⟨rfl, hb1⟩; have HB1 := Lib.hid hb1; clear C1)
        | (go_at_call 29; refine (C2.out _).mono ?_; rintro e w2 ⟨rfl, hb2⟩; have HB2 := Lib.hid (HB1.out.trans (hb2.mono HB1.out.size))))
      go_ret3
      exact ⟨rfl, HB2.out⟩
  · generalize chkP n i p.length = ec at *
    clear hno
    go_enter Tryd.func33, Tryd.ntmps33
    go_wp2_with (go_at_call 29; refine (C1.out _).mono ?_; rintro e w1 ⟨rfl, hb1⟩)
    go_ret3
    exact ⟨rfl, hb1⟩
end Go.Proofs.YteeabenmfmeooaaDoor
