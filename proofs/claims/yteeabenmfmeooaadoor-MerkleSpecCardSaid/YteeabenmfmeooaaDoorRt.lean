/-
  Merkle: Root.
-/
import Derived.Test.YteeabenmfmeooaaDoorRo
namespace Go.Proofs.YteeabenmfmeooaaDoor
open Go Go.RowKit
def rootD (l : List (List UInt8)) : List UInt8 := if l.length = 0 then tg (bts sNone) [] else rootL l
theorem rootL_len {l : List (List UInt8)} (h : 0 < l.length) : (rootL l).length = 32 := topL_len _ _ rfl (leaf32 l) (by rw [List.length_map]; exact h)
theorem rootD_len (l : List (List UInt8)) : (rootD l).length = 32 := by
  unfold rootD
  split
  · exact sha_len _
  · exact rootL_len (by omega)
theorem bv_nil (w : World) : BV w (.slice none 0 0) [] := own_bv (Own.nil w)
set_option maxRecDepth 100000 in
set_option maxHeartbeats 2000000 in
theorem Root_any (v : Value) (l : List (List UInt8)) (w : World) (hv' : LB w v l) (hn : l.length ≤ 100000) (h1 : ∀ x ∈ l, x.length ≤ 1000000) (hk : KOK w) : Calls Tryd.prog 14 #[v] w (DgR (rootD l) w) := by
  have HV := Lib.hid hv'
  have HK := Lib.hid hk
  have H1 := Lib.hid h1
  have hd0 := Lib.hid (zeros32 w)
  have hb0 := Lib.hid (one_new w (.cells ((List.replicate 32 (0 : UInt8)).map byt).toArray 30))
  obtain ⟨p, c, rfl⟩ : ∃ p c, v = .slice p l.length c := by
    obtain ⟨_, c, p, e, _⟩ := hv'
    exact ⟨p, c, e⟩
  clear hv' h1 hk
  by_cases h0 : l.length = 0
  · have hD : rootD l = tg (bts sNone) [] := by unfold rootD; rw [if_pos h0]
    rw [hD]
    have HT := Lib.hid fun (U : World) (hb : Below w.heap.size w U) => tagged_any sNone (.slice none 0 0) [] U (by decide) (bv_nil U) (by simp) (HK.out.below hb)
    have h0I : (l.length : Int) = 0 := by omega
    clear hD
    rw [h0]
    clear h0I HV
    go_enter Tryd.func14, Tryd.ntmps14
    go_wp2_with (first
      | (go_at_call 22; refine (HT.out _ hb0.out).mono ?_; rintro e w1 ⟨rfl, hb1⟩; have hB := Lib.hid (hb0.out.trans (hb1.mono hb0.out.size)); have hd1 := Lib.hid (hd0.out.below hb1))
      | (refine dg_store rfl (.tmp 2) (.tmp 6) rfl w.heap.size _ _ hd1.out (by simp) (sha_len _) rfl rfl ?_; rintro w3 hd3 hc3))
    exact bodyPost_ret (results_cell_row rfl _ _ w.heap.size 30 _ (0, 0) _ rfl hd3.out Tryd.underlying30 rfl (dg_size (sha_len _))) rfl ⟨rfl, Chg.below hB.out hB.out.size (Nat.le_refl _) hc3⟩
  · have hD : rootD l = rootL l := by unfold rootD; rw [if_neg h0]
    rw [hD]
    have hp : 0 < l.length := by omega
    have HT := Lib.hid fun (U : World) (hb : Below w.heap.size w U) => root_any _ l U (HV.out.below hb) hn hp H1.out (HK.out.below hb)
    have h0I : ¬ (l.length : Int) = 0 := by omega
    have hRl := rootL_len hp
    generalize rootL l = R at *
    clear hD
    go_enter Tryd.func14, Tryd.ntmps14
    go_wp2_with (first
      | (go_at_call 27; refine (HT.out _ hb0.out).mono ?_; rintro e w1 ⟨rfl, hb1⟩; have hB := Lib.hid (hb0.out.trans (hb1.mono hb0.out.size)); have hd1 := Lib.hid (hd0.out.below hb1))
      | (refine dg_store rfl (.tmp 2) (.tmp 8) rfl w.heap.size _ _ hd1.out (by simp) hRl rfl rfl ?_; rintro w3 hd3 hc3))
    exact bodyPost_ret (results_cell_row rfl _ _ w.heap.size 30 _ (0, 0) _ rfl hd3.out Tryd.underlying30 rfl (dg_size hRl)) rfl ⟨rfl, Chg.below hB.out hB.out.size (Nat.le_refl _) hc3⟩
end Go.Proofs.YteeabenmfmeooaaDoor
