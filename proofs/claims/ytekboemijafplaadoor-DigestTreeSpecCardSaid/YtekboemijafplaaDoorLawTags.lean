/-
  Digest: the law DigestTags.
-/
import Derived.Test.YtekboemijafplaaDoorSane
namespace Go.Proofs.YtekboemijafplaaDoor
open Go Go.RowKit
theorem grown_below {m : Nat} {w w1 w2 : World} {o : Option Nat} (h : Below m w w1) (hm : m ≤ w1.heap.size) (hg : w1.grownBy w2 o) (ho : ∀ k, o = some k → m ≤ k) : Below m w w2 :=
  ⟨hg.os.trans h.os, hg.tape.trans h.tape, hg.output.trans h.output, Nat.le_trans h.size hg.size, fun k hk => (hg.block k (by omega) (fun e => by have := ho k e.symm; omega)).trans (h.block k hk)⟩
theorem own_empty (w : World) : Own (w.alloc (.cells #[] 5)) (.slice (some ⟨w.heap.size, 0, none⟩) 0 0) (([] : List UInt8).map byt) := Own.made w #[] 5 0 (by simp) (by simp)
set_option maxRecDepth 100000 in
set_option maxHeartbeats 1000000 in
theorem tags_any (s : ByteArray) (v : Value) (l : List UInt8) (w : World) (hv : BV w v l) (hk : KOK w) : Calls Tryd.prog 5 #[.string s, v] w (Ret (.bool true) w) := by
  have HV := Lib.hid hv
  have HK := Lib.hid hk
  obtain ⟨b, cap, p, rfl, _⟩ := hv
  clear hk
  by_cases hs : 600 < s.size
  · have c1 : decide ((600 : Int) < (s.size : Int)) = true := by simp; omega
    go_enter Tryd.func5, Tryd.ntmps5
    go_wp2_with (go_at_call 11; refine (sane_any _ HK.out).mono ?_; rintro e w1 ⟨rfl, hb1⟩)
    go_ret
    exact ⟨rfl, hb1⟩
  by_cases hl : 600 < l.length
  · have c1 : decide ((600 : Int) < (s.size : Int)) = false := by simp; omega
    have c2 : decide ((600 : Int) < (l.length : Int)) = true := by simp; omega
    go_enter Tryd.func5, Tryd.ntmps5
    go_wp2_with (go_at_call 11; refine (sane_any _ HK.out).mono ?_; rintro e w1 ⟨rfl, hb1⟩)
    go_ret
    exact ⟨rfl, hb1⟩
  have c1 : decide ((600 : Int) < (s.size : Int)) = false := by simp; omega
  have c2 : decide ((600 : Int) < (l.length : Int)) = false := by simp; omega
  have hcv := fun w1 : World => Lib.run_convert_string_bytes (P := Tryd.prog) w1 9 22 5 s Tryd.underlying9 Tryd.underlying22 Tryd.underlying5
  go_enter Tryd.func5, Tryd.ntmps5
  go_wp2_with (first
    | (go_at_call 11; refine (sane_any _ HK.out).mono ?_; rintro e w1 ⟨rfl, hb1⟩; have HB1 := Lib.hid hb1; clear hb1))
  refine (sum_any _ (bts s) _ (conv_bv_at _ _ rfl s (by omega)) (by rw [bts_len]; omega) ((HK.out.below HB1.out).below (conv_below _ s))).mono ?_
  rintro e w2 ⟨rfl, hb2⟩
  have hz2 := (conv_below w1 s).size
  have hb12 : Below w1.heap.size w1 w2 := (conv_below w1 s).trans (hb2.mono hz2)
  have HB2 : Hid (Below w.heap.size w w2) := Lib.hid (HB1.out.trans (hb12.mono HB1.out.size))
  clear hb2 hb12 hz2 hcv HB1
  have hsz2 := HB2.out.size
  go_wp2_with (first
    | (refine dg_store rfl (.tmp 5) (.tmp 18) rfl w2.heap.size _ _ (zeros32 w2) (by simp) (sha_len _) rfl rfl ?_; rintro w3 hd3 hc3; have HB3 := Lib.hid (HB2.out.trans ((chg_alloc_below hc3 rfl).mono HB2.out.size)); have hsz3 := (chg_alloc_below hc3 rfl).size; have hlt3 : w2.heap.size < w3.heap.size := (Array.getElem?_eq_some_iff.1 hd3.out).1))
  clear hc3
  have heq : ∀ w, (Op.equalIn 10000 26 (dgv (tg (bts s) l)) (dgv (tg (bts s) l))).run Tryd.prog w = .ok true w := fun w => by rw [dg_equal _ _ (tg_len _ _) (tg_len _ _), beq_self_eq_true]
  generalize w2.heap.size = g at *
  have hs9 : s.size ≤ 1000000 := by omega
  have hl9 : l.length ≤ 1000000 := by omega
  have C14A := Lib.hid (tagged_any s _ l w3.drew hs9 (HV.out.below (below_drew HB3.out)) hl9 (HK.out.below (below_drew HB3.out)))
  have hbB : Below w.heap.size w (w3.alloc (.cells #[] 5)).drew := below_drew (HB3.out.trans ((one_new w3 _).mono HB3.out.size))
  have C14B := Lib.hid (tagged_any s _ l (w3.alloc (.cells #[] 5)).drew hs9 (HV.out.below hbB) hl9 (HK.out.below hbB))
  have HBB := Lib.hid hbB
  clear hbB
  go_region_law (first
    | (have _ := HB6; go_simp; go_at_call 12; refine (sum_any v6 (sha (bts s) ++ l) w6 (own_bv ho6.out) (by rw [List.length_append, sha_len]; omega) (HK.out.below HB6.out)).mono ?_; rintro e w7 ⟨rfl, hb7⟩; rw [show sha (sha (bts s) ++ l) = tg (bts s) l from rfl]; have HB7 := Lib.hid (HB6.out.trans (hb7.mono HB6.out.size)); clear hb7 HB6)
    | (refine bytes_step rfl (.tmp 24) (.tmp 25) rfl v5 (.slice p l.length cap) (sha (bts s)) l (by simp [Act.eval, Act.put]) ho5.out (by simp [Act.eval, Act.put]) (HV.out.below HB5.out) (by rw [sha_len]; omega) ?_; intro v6 w6 ho6 hg6 hv6; have HB6 := Lib.hid (grown_below HB5.out HB5.out.size hg6 hv5); clear hg6 hv6)
    | (have _ := HOB; refine bytes_step rfl (.tmp 22) (.tmp 23) rfl (.slice (some ⟨w3.heap.size, 0, none⟩) 0 0) (.slice (some ⟨g, 0, none⟩) 32 32) [] (sha (bts s)) (by simp [Act.eval, Act.put]) HOB.out (by simp [Act.eval, Act.put]) (dg_bv HD4.out (sha_len _)) (by rw [sha_len]; simp) ?_; intro v5 w5 ho5 hg5 hv5'
       have HB5 := Lib.hid (grown_below HB4.out HB4.out.size hg5 (fun k e => by have := HB3.out.size; cases e; exact this))
       have hv5 : ∀ k, v5.ownBlock = some k → w.heap.size ≤ k := fun k e => by
         have h4 := HB4.out.size
         have h3 := HB3.out.size
         rcases hv5' with h | ⟨k', h, h'⟩
         · rw [h] at e; cases e; exact h3
         · rw [h] at e; cases e; omega
       clear hg5 hv5')
    | (refine bytes_step rfl (.tmp 22) (.tmp 23) rfl (.slice (some ⟨w4.heap.size, 0, none⟩) 0 0) (.slice (some ⟨g, 0, none⟩) 32 32) [] (sha (bts s)) (by simp [Act.eval, Act.put]) (own_empty w4) (by simp [Act.eval, Act.put]) (dg_bv (HD4.out.below (one_new w4 _)) (sha_len _)) (by rw [sha_len]; simp) ?_; intro v5 w5 ho5 hg5 hv5'
       have HB5 := Lib.hid (grown_below (HB4.out.trans ((one_new w4 _).mono HB4.out.size)) (HB4.out.trans ((one_new w4 (.cells #[] 5)).mono HB4.out.size)).size hg5 (fun k e => by have := HB4.out.size; cases e; exact this))
       have hv5 : ∀ k, v5.ownBlock = some k → w.heap.size ≤ k := fun k e => by
         have h4 := HB4.out.size
         have hA := (World.size_alloc w4 (.cells #[] 5))
         rcases hv5' with h | ⟨k', h, h'⟩
         · rw [h] at e; cases e; exact h4
         · rw [h] at e; cases e; omega
       clear hg5 hv5')
    | (go_simp; go_at_call 14; refine C14B.out.mono ?_; rintro e w4 ⟨rfl, hb4⟩; have HB4 := Lib.hid (HBB.out.trans (hb4.mono HBB.out.size)); have HD4 : Hid (Dg w4 g (sha (bts s))) := Lib.hid (Dg.below (w := (w3.alloc (.cells #[] 5)).drew) (Dg.below (w := w3) hd3.out (below_drew (one_new w3 _))) hb4)
       have HOB : Hid (Own w4 (.slice (some ⟨w3.heap.size, 0, none⟩) 0 0) (([] : List UInt8).map byt)) := Lib.hid (Own.keep (own_empty w3) (Nat.le_trans (Nat.le_refl (w3.alloc (.cells #[] 5)).heap.size) hb4.size) (fun k e => by cases e; exact hb4.block _ (Nat.lt_of_lt_of_eq (Nat.lt_succ_self w3.heap.size) (World.size_alloc w3 (.cells #[] 5)).symm)))
       clear hb4)
    | (go_simp; go_at_call 14; refine C14A.out.mono ?_; rintro e w4 ⟨rfl, hb4⟩; have HB4 := Lib.hid ((below_drew HB3.out).trans (hb4.mono HB3.out.size)); have HD4 : Hid (Dg w4 g (sha (bts s))) := Lib.hid (Dg.below (w := w3.drew) hd3.out hb4); clear hb4))
  all_goals
    go_wp2_with fail
    go_ret
    exact ⟨rfl, HB7.out⟩
end Go.Proofs.YtekboemijafplaaDoor
