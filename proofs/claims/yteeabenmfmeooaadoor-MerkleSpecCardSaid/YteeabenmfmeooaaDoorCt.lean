/-
  Merkle: Climb.
-/
import Derived.Test.YteeabenmfmeooaaDoorCm
import Derived.Laws.ResultCell
namespace Go.Proofs.YteeabenmfmeooaaDoor
open Go Go.RowKit
theorem res2 {fn : Func} {p u : Tmp} (h : fn.results = #[.cell p 30, .tmp u]) (tmps : Array Value) (w : World) (g : Nat) (l : List UInt8) (hp : tmps.getD p undef = .pointer (some ⟨g, 0, none⟩)) (hg : Dg w g l) (hl : l.length = 32) :
    (results fn tmps).run Tryd.prog w = .ok (.tuple #[dgv l, tmps.getD u undef]) w := by
  have h1 := run_loadVar_row (P := Tryd.prog) w g 30 30 (l.map byt).toArray (0, 0) _ hg Tryd.underlying30 rfl (dg_size hl)
  rw [results_cell_tmp h, hp]
  simp [asAddr, h1, Result.andThen]
def ClimbR (r : List UInt8) (e' : Int) (w : World) (e : Ending) (w' : World) : Prop := e = .returned (.tuple #[dgv r, .int .i64 e']) ∧ Below w.heap.size w w'
/-- what Climb returns -/
def climbD (n i : Int) (leaf : List UInt8) (path : List (List UInt8)) : List UInt8 := if chkP n i path.length = 0 then climbB i.toNat n.toNat leaf path else zeros
theorem climbD_len (n i : Int) (leaf : List UInt8) (path : List (List UInt8)) : (climbD n i leaf path).length = 32 := by
  unfold climbD
  split
  · exact climb_len _ _ _ _
  · simp
theorem chk_zero {n i : Int} {m : Nat} (h : chkP n i m = 0) : ∃ a s : Nat, i = (a : Int) ∧ n = (s : Int) ∧ a < s ∧ s ≤ 65536 ∧ m = plen a s := by
  unfold chkP at h
  by_cases hp : placeB n i = true
  · rw [if_pos hp] at h
    obtain ⟨a, s, rfl, rfl, h1, h2⟩ := place_nat hp
    by_cases hm : m = plen (Int.toNat a) (Int.toNat s)
    · exact ⟨a, s, rfl, rfl, h1, h2, hm⟩
    · rw [if_neg hm] at h
      cases h
  · rw [if_neg hp] at h
    cases h
set_option maxRecDepth 100000 in
set_option maxHeartbeats 2000000 in
theorem Climb_any (n i : Int) (v u : Value) (leaf : List UInt8) (path : List (List UInt8)) (w : World) (hv' : BV w v leaf) (hl : leaf.length ≤ 1000000) (hu : LD w u path) (h32 : D32 path) (hk : KOK w) :
    Calls Tryd.prog 17 #[.int .i64 n, .int .i64 i, v, u] w (ClimbR (climbD n i leaf path) (chkP n i path.length) w) := by
  have HV := Lib.hid hv'
  have HU := Lib.hid hu
  have HK := Lib.hid hk
  have H32 := Lib.hid h32
  obtain ⟨b2, c2, p2, rfl, h1, h2, _, _⟩ := hu
  have HC := Lib.hid fun (U : World) => checkPath_any n i p2 path.length c2 U h1 h2
  by_cases hz : chkP n i path.length = 0
  · obtain ⟨a, s, rfl, rfl, h3, h4, h5⟩ := chk_zero hz
    have hD : climbD (s : Int) (a : Int) leaf path = climbB a s leaf path := by unfold climbD; rw [if_pos hz]; rfl
    rw [hD, hz]
    rw [hz] at HC
    have HM := Lib.hid fun (U : World) (hb : Below w.heap.size w U) => climb_any s a v (.slice p2 path.length c2) leaf path U h4 h3 (HV.out.below hb) hl (HU.out.below hb) H32.out h5 (HK.out.below hb)
    clear hv' hk h32 hz hD h5
    go_enter Tryd.func17, Tryd.ntmps17
    have hd0 := Lib.hid (zeros32 w)
    have hb0 := Lib.hid (one_new w (.cells ((List.replicate 32 (0 : UInt8)).map byt).toArray 30))
    go_wp2_with (first
      | (go_at_call 29; refine (HC.out _).mono ?_; rintro e w1 ⟨rfl, hb1⟩; have hB := Lib.hid (hb0.out.trans (hb1.mono hb0.out.size)); have hd1 := Lib.hid (hd0.out.below hb1))
      | (go_at_call 30; refine (HM.out _ hB.out).mono ?_; rintro e w2 ⟨rfl, hb2⟩; have hB2 := Lib.hid (hB.out.trans (hb2.mono hB.out.size)); have hd2 := Lib.hid (hd1.out.below hb2))
      | (refine dg_store rfl (.tmp 8) (.tmp 22) rfl w.heap.size _ _ hd2.out (by simp) (climb_len _ _ _ _) rfl rfl ?_; rintro w3 hd3 hc3))
    exact bodyPost_ret (res2 rfl _ _ w.heap.size _ rfl hd3.out (climb_len _ _ _ _)) rfl ⟨rfl, Chg.below hB2.out hB2.out.size (Nat.le_refl _) hc3⟩
  · have hD : climbD n i leaf path = zeros := by unfold climbD; rw [if_neg hz]
    rw [hD]
    generalize chkP n i path.length = ec at *
    clear hv' hk h32 hD
    go_enter Tryd.func17, Tryd.ntmps17
    have hd0 := Lib.hid (zeros32 w)
    have hb0 := Lib.hid (one_new w (.cells ((List.replicate 32 (0 : UInt8)).map byt).toArray 30))
    go_wp2_with (first
      | (go_at_call 29; refine (HC.out _).mono ?_; rintro e w1 ⟨rfl, hb1⟩; have hB := Lib.hid (hb0.out.trans (hb1.mono hb0.out.size)); have hd1 := Lib.hid (hd0.out.below hb1))
      | (refine dg_store rfl (.tmp 8) (.tmp 16) rfl w.heap.size _ zeros hd1.out (by simp) (by simp) rfl rfl ?_; rintro w3 hd3 hc3))
    exact bodyPost_ret (res2 rfl _ _ w.heap.size _ rfl hd3.out (by simp)) rfl ⟨rfl, Chg.below hB.out hB.out.size (Nat.le_refl _) hc3⟩
end Go.Proofs.YteeabenmfmeooaaDoor
