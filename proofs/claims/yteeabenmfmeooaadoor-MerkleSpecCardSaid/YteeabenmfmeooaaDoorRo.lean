/-
  Merkle: the root.
-/
import Derived.Test.YteeabenmfmeooaaDoorNx
namespace Go.Proofs.YteeabenmfmeooaaDoor
open Go Go.RowKit
/-- the last row's digest -/
def topL (l : List (List UInt8)) : List UInt8 := if _h : l.length ≤ 1 then l.headD [] else topL (nextL l)
termination_by l.length
decreasing_by rw [nextL_len]; omega
theorem topL_one {l : List (List UInt8)} (h : l.length ≤ 1) : topL l = l.headD [] := by rw [topL, dif_pos h]
theorem topL_next {l : List (List UInt8)} (h : 1 < l.length) : topL l = topL (nextL l) := by rw [topL, dif_neg (by omega)]
theorem topL_len : ∀ (n : Nat) (l : List (List UInt8)), l.length = n → D32 l → 0 < n → (topL l).length = 32 := by
  intro n
  induction n using Nat.strongRecOn with
  | ind n ih =>
    intro l hl h32 hn
    by_cases h1 : n ≤ 1
    · rw [topL_one (by omega)]
      obtain ⟨d, r, rfl⟩ := List.exists_cons_of_ne_nil (fun e => by rw [e] at hl; simp at hl; omega : l ≠ [])
      exact h32 d (List.mem_cons_self ..)
    · rw [topL_next (by omega)]
      exact ih ((n + 1) / 2) (by omega) (nextL l) (by rw [nextL_len, hl]) (nextL32 h32) (by omega)
theorem RowI.base {w w1 w2 : World} {v : Value} {l : List (List UInt8)} (h : RowI w1 w2 v l) (hb : Below w.heap.size w w1) : RowI w w2 v l :=
  ⟨h.own, fun j hj => Nat.le_trans hb.size (h.new j hj), hb.trans (h.below.mono hb.size)⟩
/-- the root of at least one leaf -/
def rootL (l : List (List UInt8)) : List UInt8 := topL (l.map leafD)
def lenOf : Value → Nat
  | .slice _ n _ => n
  | _ => 0
set_option maxRecDepth 100000 in
set_option maxHeartbeats 2000000 in
theorem root_any (v : Value) (l : List (List UInt8)) (w : World) (hv' : LB w v l) (hn : l.length ≤ 100000) (hpos : 0 < l.length) (h1 : ∀ x ∈ l, x.length ≤ 1000000) (hk : KOK w) : Calls Tryd.prog 27 #[hv, v] w (DgR (rootL l) w) := by
  have HK := Lib.hid hk
  have HFR := Lib.hid fun (U : World) (hb : Below w.heap.size w U) => first_any v l U (hv'.below hb) hn h1 (hk.below hb)
  have hd0 := Lib.hid (zeros32 w)
  have hb0 := Lib.hid (one_new w (.cells ((List.replicate 32 (0 : UInt8)).map byt).toArray 30))
  have h320 := leaf32 l
  have hl0 : (l.map leafD).length = l.length := List.length_map ..
  obtain ⟨T, hT⟩ : ∃ T, rootL l = T := ⟨_, rfl⟩
  have hTL := topL_len _ (l.map leafD) rfl h320 (by omega)
  have hT0 : topL (l.map leafD) = T := hT
  rw [hT0] at hTL
  obtain ⟨p, c, hvf⟩ : ∃ p c, v = .slice p l.length c := by
    obtain ⟨_, c, p, e, _⟩ := hv'
    exact ⟨p, c, e⟩
  rw [hT]
  have HL0 := Lib.hid (⟨h320, by omega, by omega, hT0⟩ : D32 (l.map leafD) ∧ 0 < (l.map leafD).length ∧ (l.map leafD).length ≤ 100000 ∧ topL (l.map leafD) = T)
  clear hv' h1 hk hT hT0 h320 hl0
  go_enter Tryd.func27, Tryd.ntmps27
  subst hvf
  go_wp2_with (go_at_call 39; refine (HFR.out _ hb0.out).mono ?_; rintro e w1 ⟨v1, rfl, hR1⟩; have hd1 := Lib.hid (hd0.out.below hR1.out.below))
  have hz0 : (w.alloc (.cells ((List.replicate 32 (0 : UInt8)).map byt).toArray 30)).heap.size = w.heap.size + 1 := by simp
  clear hd0 HFR
  generalize w.alloc (.cells ((List.replicate 32 (0 : UInt8)).map byt).toArray 30) = W0 at *
  go_loopw [5] (fun u wr => ∃ r : List (List UInt8), Hid (RowI W0 wr u r) ∧ Hid (D32 r ∧ 0 < r.length ∧ r.length ≤ 100000 ∧ topL r = T) ∧ Hid (Dg wr w.heap.size (List.replicate 32 0))) (fun u _ => lenOf u)
  case atStart => exact ⟨_, hR1, HL0, hd1⟩
  case round =>
    clear hR1 HL0 hd1
    obtain ⟨r, HR, HL, HD⟩ := hrel
    obtain ⟨p1, c1, rfl⟩ := own_form HR.out.own
    have hld := own_ld HR.out.own
    obtain ⟨h32, hp, hle, ht⟩ := HL.out
    have HKR := Lib.hid (HK.out.below (hb0.out.trans (HR.out.below.mono hb0.out.size)))
    by_cases h1 : 1 < r.length
    · have h1I : (1 : Int) < (r.length : Int) := by omega
      have HN := Lib.hid (next_any _ r wr hld h32 hle hp HKR.out)
      have HL2 := Lib.hid (⟨nextL32 h32, by rw [nextL_len]; omega, by rw [nextL_len]; omega, by rw [← topL_next h1]; exact ht⟩ : D32 (nextL r) ∧ 0 < (nextL r).length ∧ (nextL r).length ≤ 100000 ∧ topL (nextL r) = T)
      have H1 := Lib.hid h1
      clear hld h32 hp hle ht
      go_wp2_with (go_at_call 43; refine HN.out.mono ?_; rintro e w2 ⟨v2, rfl, hR2⟩; have HR2 := Lib.hid (hR2.out.base HR.out.below); have hd2 := Lib.hid (HD.out.below hR2.out.below))
      go_roundw
      case rel => exact ⟨_, HR2, HL2, hd2⟩
      case measure =>
        obtain ⟨p2, c2, rfl⟩ := own_form HR2.out.own
        have := nextL_len r
        simp only [lenOf]
        omega
    · have h1I : ¬ (1 : Int) < (r.length : Int) := by omega
      obtain ⟨d, hd⟩ : ∃ d, r = [d] := List.length_eq_one_iff.1 (by omega)
      subst hd
      have hdT : d = T := by rw [← ht, topL_one (by simp)]; rfl
      subst hdT
      obtain ⟨b', c', p', hv', _, _, _, hc4⟩ := hld
      rcases hc4 with hc4 | ⟨o', rfl, hblt, hra⟩
      · cases hc4
      cases hv'
      rw [fl_one] at hra
      have HRA := Lib.hid hra
      have hBW := Lib.hid (hb0.out.trans (HR.out.below.mono hb0.out.size))
      have hwlt := HD.out.lt
      clear ht hra h32 hp hle
      simp only [List.length_cons, List.length_nil, Nat.zero_add] at h1I ⊢
      go_wp2_with (first
        | (refine el_load rfl (.tmp 16) rfl b' o' d HRA.out hTL rfl ?_)
        | (refine dg_store rfl (.tmp 4) (.tmp 17) rfl w.heap.size _ _ HD.out (by simp) hTL rfl rfl ?_; rintro w3 hd3 hc3))
      exact bodyPost_ret (results_cell_row rfl _ _ w.heap.size 30 _ (0, 0) _ rfl hd3.out Tryd.underlying30 rfl (dg_size hTL)) rfl ⟨rfl, Chg.below hBW.out hBW.out.size (Nat.le_refl _) hc3⟩
end Go.Proofs.YteeabenmfmeooaaDoor
