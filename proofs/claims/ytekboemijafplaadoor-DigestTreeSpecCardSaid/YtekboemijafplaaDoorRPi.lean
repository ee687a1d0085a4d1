/-
  Digest: the reference's path, Path.
-/
import Derived.Test.YtekboemijafplaaDoorRTree
import Derived.Test.YtekboemijafplaaDoorPi
import Derived.Test.YtekboemijafplaaDoorSteps
namespace Go.Proofs.YtekboemijafplaaDoor
open Go Go.RowKit
def RPiOk (n : Nat) : Prop := ∀ (l : List (List UInt8)) (at' : Nat) (v : Value) (w : World), l.length = n → 1 ≤ n → n ≤ 64 → at' < n → D32 l → LD w v l → Calls Tryd.prog 40 #[v, .int .i64 (at' : Int)] w (PiR (PA l at') w)
set_option maxRecDepth 100000 in
set_option maxHeartbeats 1000000 in
theorem rpi_two (n : Nat) (ih : ∀ m, m < n → RPiOk m) (hn : 2 ≤ n) : RPiOk n := by
  intro l at' v w hl _ h64 hat h32 hv
  have hform : ∃ b o cap, v = .slice (some ⟨b, o, none⟩) n cap ∧ n ≤ cap ∧ cap ≤ maxLen := by
    obtain ⟨b, cap, p, rfl, h1, h2, h3, h4⟩ := hv
    rcases h4 with rfl | ⟨o, rfl, _⟩
    · simp at hl; omega
    · exact ⟨b, o, cap, by rw [hl], by omega, h2⟩
  obtain ⟨b, o, cap, rfl, hcap, hmax⟩ := hform
  have hp := half_pos n
  have hh := half_lt hn
  have hq := hp_half hn h64
  unfold maxLen at hmax
  have hva := hv.pre (half n) (by rw [hl]; omega)
  have hvb := hv.suf h32 (half n) (by rw [hl]; omega)
  have hta : (l.take (half n)).length = half n := by rw [List.length_take, hl]; omega
  have htb : (l.drop (half n)).length = n - half n := by rw [List.length_drop, hl]
  have hPA := PA_two l at' (by omega)
  rw [hl] at hPA
  have HA := Lib.hid hva
  have HB := Lib.hid hvb
  have H32 := Lib.hid h32
  have HPA := Lib.hid hPA
  have HTA := Lib.hid hta
  have HTB := Lib.hid htb
  have HIH := Lib.hid ih
  clear hva hvb hv h32 hPA hta htb ih
  have hn1 : ((n : Int) == 1) = false := by simp; omega
  have hcn : ¬ (cap = half n) := by omega
  have i1 : ((half n : Nat) : Int) ≤ (cap : Int) := by omega
  have i2 : ((half n : Nat) : Int) ≤ (n : Int) := by omega
  have i3 : (n : Int) ≤ (cap : Int) := by omega
  have g32 : D32 [T (l.drop (half n))] := fun d hd => by simp at hd; rw [hd]; exact T_len _
  have g32' : D32 [T (l.take (half n))] := fun d hd => by simp at hd; rw [hd]; exact T_len _
  have G32 := Lib.hid g32
  have G32' := Lib.hid g32'
  clear g32 g32'
  by_cases hlt : at' < half n
  · go_enter Tryd.func40, Tryd.ntmps40
    go_wp2_with (go_at_call 37; refine (rhalf_any n hn (by omega) _).mono ?_; rw [hq]; rintro e w1 ⟨rfl, hb1⟩)
    have HB1 := Lib.hid (below_drew hb1)
    have C := Lib.hid (HIH.out (half n) hh (l.take (half n)) at' _ w1.drew HTA.out hp (by omega) hlt (H32.out.take _) (HA.out.below HB1.out))
    clear hb1
    have hF := fold_dg (T (l.drop (half n))) (T_len _)
    have hFl := T_len (l.drop (half n))
    have hFn : ¬ (32 < (T (l.drop (half n))).length) := by rw [T_len]; omega
    go_region_law (first
      | (have _ := HB3; refine digs_step rfl (.tmp 20) (.tmp 25) rfl v2 (.slice (some ⟨w3.heap.size, 0, none⟩) 1 1) (PA (l.take (half n)) at') [T (l.drop (half n))] (by simp [Act.eval, Act.put]) (HO3.out.alloc _) (by simp [Act.eval, Act.put]) (ld_one w3 _ (T_len _)) G32.out (by have h1 := PA_len _ (l.take (half n)) at' HTA.out hp; have h2 := PL_lt (half n) at' hp; rw [h1]; simp; omega) ?_; intro v4 w4 ho4 hg4 hv4'
         have hbx := Lib.hid (HB3.out.trans ((one_new w3 (.cells ((T (l.drop (half n))).map byt).toArray 26)).mono HB3.out.size))
         have hb4 := Lib.hid (grown_below hbx.out hbx.out.size hg4 hob2')
         have hv4 : ∀ k, v4.ownBlock = some k → w.heap.size ≤ k := fun k e => by
           rcases hv4' with h | ⟨k', h, h'⟩
           · exact hob2' k (by rw [← h]; exact e)
           · rw [h] at e; cases e; exact Nat.le_trans hbx.out.size h'
         clear hg4 hv4' hbx)
      | (have _ := HB2; go_simp; go_at_call 18; refine (rtree_any (l.drop (half n)) _ w2 (by rw [HTB.out]; omega) (H32.out.drop _) (HB.out.below HB2.out)).mono ?_; rintro e w3 ⟨rfl, hb3⟩; have HB3 := Lib.hid (HB2.out.trans (hb3.mono HB2.out.size)); have HO3 := Lib.hid (OwnN.later HO2.out hb3); clear hb3 HB2)
      | (go_simp; go_at_call 40; refine C.out.mono ?_; rintro e w2 ⟨v2, rfl, ho2, hb2, hob2⟩; have HB2 := Lib.hid (HB1.out.trans (hb2.mono HB1.out.size)); have HO2 := Lib.hid ho2; have hob2' : ∀ k, v2.ownBlock = some k → w.heap.size ≤ k := fun k e => Nat.le_trans HB1.out.size (hob2 k e); clear ho2 hob2))
    have hx : PA (l.take (half n)) at' ++ [T (l.drop (half n))] = PA l at' := by rw [HPA.out, if_pos hlt]
    rw [hx] at ho4
    go_wp2_with fail
    go_ret
    exact ⟨_, rfl, ho4.out, hb4.out, hv4⟩
  · have e1 : IntKind.i64.wrap ((at' : Int) - (half n : Int)) = ((at' - half n : Nat) : Int) := by rw [IntWalk.i64_in _ (by omega)]; omega
    go_enter Tryd.func40, Tryd.ntmps40
    go_wp2_with (go_at_call 37; refine (rhalf_any n hn (by omega) _).mono ?_; rw [hq]; rintro e w1 ⟨rfl, hb1⟩)
    have HB1 := Lib.hid (below_drew hb1)
    have C := Lib.hid (HIH.out (n - half n) (by omega) (l.drop (half n)) (at' - half n) _ w1.drew HTB.out (by omega) (by omega) (by omega) (H32.out.drop _) (HB.out.below HB1.out))
    clear hb1
    have hF := fold_dg (T (l.take (half n))) (T_len _)
    have hFl := T_len (l.take (half n))
    have hFn : ¬ (32 < (T (l.take (half n))).length) := by rw [T_len]; omega
    go_region_law (first
      | (have _ := HB3; refine digs_step rfl (.tmp 33) (.tmp 38) rfl v2 (.slice (some ⟨w3.heap.size, 0, none⟩) 1 1) (PA (l.drop (half n)) (at' - half n)) [T (l.take (half n))] (by simp [Act.eval, Act.put]) (HO3.out.alloc _) (by simp [Act.eval, Act.put]) (ld_one w3 _ (T_len _)) G32'.out (by have h1 := PA_len _ (l.drop (half n)) (at' - half n) HTB.out (by omega); have h2 := PL_lt (n - half n) (at' - half n) (by omega); rw [h1]; simp; omega) ?_; intro v4 w4 ho4 hg4 hv4'
         have hbx := Lib.hid (HB3.out.trans ((one_new w3 (.cells ((T (l.take (half n))).map byt).toArray 26)).mono HB3.out.size))
         have hb4 := Lib.hid (grown_below hbx.out hbx.out.size hg4 hob2')
         have hv4 : ∀ k, v4.ownBlock = some k → w.heap.size ≤ k := fun k e => by
           rcases hv4' with h | ⟨k', h, h'⟩
           · exact hob2' k (by rw [← h]; exact e)
           · rw [h] at e; cases e; exact Nat.le_trans hbx.out.size h'
         clear hg4 hv4' hbx)
      | (have _ := HB2; go_simp; go_at_call 18; refine (rtree_any (l.take (half n)) _ w2 (by rw [HTA.out]; omega) (H32.out.take _) (HA.out.below HB2.out)).mono ?_; rintro e w3 ⟨rfl, hb3⟩; have HB3 := Lib.hid (HB2.out.trans (hb3.mono HB2.out.size)); have HO3 := Lib.hid (OwnN.later HO2.out hb3); clear hb3 HB2)
      | (go_simp; go_at_call 40; refine C.out.mono ?_; rintro e w2 ⟨v2, rfl, ho2, hb2, hob2⟩; have HB2 := Lib.hid (HB1.out.trans (hb2.mono HB1.out.size)); have HO2 := Lib.hid ho2; have hob2' : ∀ k, v2.ownBlock = some k → w.heap.size ≤ k := fun k e => Nat.le_trans HB1.out.size (hob2 k e); clear ho2 hob2))
    have hx : PA (l.drop (half n)) (at' - half n) ++ [T (l.take (half n))] = PA l at' := by rw [HPA.out, if_neg hlt]
    rw [hx] at ho4
    go_wp2_with fail
    go_ret
    exact ⟨_, rfl, ho4.out, hb4.out, hv4⟩
theorem rpi_all : ∀ n, RPiOk n := fun n => Nat.strongRecOn n fun n ih => by
  by_cases hn : 2 ≤ n
  · exact rpi_two n ih hn
  · intro l at' v w hl h1 h64 hat h32 hv
    obtain rfl : n = 1 := by omega
    obtain ⟨b, cap, p, rfl, _⟩ := hv
    rw [PA_one l at' (by omega), hl]
    go_enter Tryd.func40, Tryd.ntmps40
    go_wp2_with fail
    go_ret
    exact ⟨_, rfl, ownN_empty w, one_new w _, fun k e => by cases e; exact Nat.le_refl _⟩
set_option maxHeartbeats 1000000 in
theorem rpath_ok (l : List (List UInt8)) (at' : Nat) (v : Value) (w : World) (h64 : l.length ≤ 64) (hat : at' < l.length) (h32 : D32 l) (hv : LD w v l) : Calls Tryd.prog 20 #[v, .int .i64 (at' : Int)] w (PathR (PA l at') w) := by
  have C := Lib.hid (rpi_all l.length l at' v w rfl (by omega) h64 hat h32 hv)
  obtain ⟨b, cap, p, rfl, _⟩ := hv
  have c1 : decide ((at' : Int) < 0) = false := by simp
  have c2 : decide ((l.length : Int) ≤ (at' : Int)) = false := by simp; omega
  have c3 : ¬ (l.length ≤ at') := by omega
  clear h32
  go_enter Tryd.func20, Tryd.ntmps20
  go_wp2_with (go_at_call 40; refine C.out.mono ?_; rintro e w2 ⟨v2, rfl, ho2, hb2, hob2⟩; have HO2 := Lib.hid ho2; clear ho2)
  go_ret2
  exact ⟨_, rfl, HO2.out, hb2, hob2⟩
end Go.Proofs.YtekboemijafplaaDoor
