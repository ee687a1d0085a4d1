/-
  Digest, the reference: hashes under a tag, chains.
-/
import Derived.Test.YtekboemijafplaaDoorRSum
namespace Go.Proofs.YtekboemijafplaaDoor
open Go Go.RowKit
theorem keep_dg {w1 w2 : World} {o : Option Nat} {g : Nat} {l : List UInt8} (hd : Dg w1 g l) (hg : w1.grownBy w2 o) (hne : ∀ k, o = some k → g ≠ k) : Dg w2 g l :=
  (hg.block g (Array.getElem?_eq_some_iff.1 hd).1 (fun e => hne g e.symm rfl)).trans hd
set_option maxRecDepth 100000 in
set_option maxHeartbeats 1000000 in
theorem rtagged_any (s : ByteArray) (v : Value) (l : List UInt8) (w : World) (hs : s.size ≤ 900000) (hv : BV w v l) (hl : l.length ≤ 900000) : Calls Tryd.prog 15 #[.string s, v] w (TagR (bts s) l w) := by
  have HV := Lib.hid hv
  obtain ⟨b, cap, p, rfl, _⟩ := hv
  have hcv := fun w1 : World => Lib.run_convert_string_bytes (P := Tryd.prog) w1 9 22 5 s Tryd.underlying9 Tryd.underlying22 Tryd.underlying5
  go_enter Tryd.func15, Tryd.ntmps15
  go_wp2_with fail
  refine (rsum_any _ (bts s) _ (conv_bv_at _ _ (by simp) s (by omega)) (by rw [bts_len]; omega)).mono ?_
  rintro e w1 ⟨rfl, hb1⟩
  have hbA := tag_start hb1
  have hd1 : Dg w1 w.heap.size (List.replicate 32 0) := (hbA.block w.heap.size (by omega)).trans (zeros32 w)
  have hb2 : Below w.heap.size w w1 := (one_new w _).trans (hbA.mono (by omega))
  have hz1 := hbA.size
  rw [World.size_alloc] at hz1
  have HD1 := Lib.hid hd1
  have HB2 := Lib.hid hb2
  clear hb1 hbA hcv hd1 hb2
  go_wp2_with (first
    | (have _ := HB5; refine bytes_own rfl (.tmp 11) (.tmp 12) rfl v5 (.slice p l.length cap) (sha (bts s)) l rfl ho5.out rfl (HV.out.below HB5.out) (by rw [sha_len]; omega) ?_; rintro v6 w6 ho6 hg6 hv6; have HB6 := Lib.hid (grown_below2 HB5.out HB5.out.size hg6 hv5); have HR6 := Lib.hid (keep_dg HR5.out hg6 (fun k e => by have := hv7 k e; omega)); clear hg6 hv6)
    | (have _ := hb3; refine bytes_own rfl (.tmp 9) (.tmp 10) rfl (.slice (some ⟨w2.heap.size, 0, none⟩) 0 0) (.slice (some ⟨w1.heap.size, 0, none⟩) 32 32) [] (sha (bts s)) rfl (own_nil5 w2) rfl (dg_bv (hd2.out.below (one_new w2 _)) (sha_len _)) (by rw [sha_len]; simp) ?_; rintro v5 w5 ho5 hg5 hv5'
       have hbx := hb3.out.trans ((one_new w2 (.cells #[] 5)).mono hb3.out.size)
       have hz2 := (one_new w2 (.cells #[] 5)).size
       have HB5 := Lib.hid (grown_below2 hbx hbx.size hg5 (fun k e => by cases e; exact hb3.out.size))
       have hv5 := own_from (v := .slice (some ⟨w2.heap.size, 0, none⟩) 0 0) (m := w.heap.size) (fun k e => by cases e; exact hb3.out.size) hbx.size hv5'
       have hv7 : ∀ k, v5.ownBlock = some k → w.heap.size + 1 ≤ k := own_from (v := .slice (some ⟨w2.heap.size, 0, none⟩) 0 0) (m := w.heap.size + 1) (fun k e => by cases e; exact hs3) (Nat.le_trans hs3 hz2) hv5'
       have HR5 := Lib.hid (keep_dg (HR2.out.below (one_new w2 _)) hg5 (fun k e => by cases e; show _ ≠ w2.heap.size; omega))
       clear hg5 hv5' hbx)
    | (refine dg_store rfl (.tmp 5) (.tmp 8) rfl w1.heap.size _ _ (zeros32 w1) (by simp) (sha_len _) rfl rfl ?_; rintro w2 hd2 hc2; have hbw := chg_alloc_below hc2 rfl; have hb3 := Lib.hid (HB2.out.trans (hbw.mono HB2.out.size)); have HR2 := Lib.hid (HD1.out.below hbw); have hs3 : w.heap.size + 1 ≤ w2.heap.size := Nat.le_trans hz1 hbw.size; clear hc2 hbw))
  refine (rsum_any v6 _ w6 (own_bv ho6.out) (by rw [List.length_append, sha_len]; omega)).mono ?_
  rintro e w7 ⟨rfl, hb7⟩
  have HR7 := Lib.hid (HR6.out.below hb7)
  have HB7 := Lib.hid (HB6.out.trans (hb7.mono HB6.out.size))
  clear hb7
  go_wp2_with (refine dg_store rfl (.tmp 4) (.tmp 14) rfl w.heap.size _ _ HR7.out (by simp) (sha_len _) rfl rfl ?_; rintro w8 hd8 hc8)
  exact bodyPost_ret (results_cell_row rfl _ _ w.heap.size 26 _ (0, 0) _ rfl hd8.out Tryd.underlying26 rfl (dg_size (sha_len _))) rfl ⟨rfl, Chg.below HB7.out HB7.out.size (Nat.le_refl _) hc8⟩
set_option maxRecDepth 100000 in
set_option maxHeartbeats 1000000 in
theorem rchain_any (a b : List UInt8) (w : World) (ha : a.length = 32) (hb : b.length = 32) : Calls Tryd.prog 26 #[dgv a, dgv b] w (PairR (bts sChain) a b w) := by
  have HA := Lib.hid ha
  have HB := Lib.hid hb
  clear ha hb
  unfold dgv
  go_enter Tryd.func26, Tryd.ntmps26
  go_wp2_with fail
  generalize hW : ((w.alloc _).alloc _).alloc _ = W
  have h3 : Three w W a b := by rw [← hW]; exact three w a b
  clear hW
  have HZ4 := Lib.hid h3.size
  have H4 := Lib.hid h3
  clear h3
  have hb0 := Lib.hid (below_drew0 (H4.out.below.trans ((one_new W (.cells #[] 5)).mono H4.out.below.size)))
  have HSW := Lib.hid (World.size_alloc W (.cells #[] 5))
  have hOn : Hid (Own (W.alloc (.cells #[] 5)).drew (.slice (some ⟨W.heap.size, 0, none⟩) 0 0) (([] : List UInt8).map byt)) := Lib.hid ((own_nil5 W).keep (Nat.le_refl _) (fun k hk => rfl))
  have hAa : Hid (Dg (W.alloc (.cells #[] 5)).drew w.heap.size a) := Lib.hid (H4.out.a.below (below_drew0 (one_new W _)))
  have hAb : Hid (Dg (W.alloc (.cells #[] 5)).drew (w.heap.size + 1) b) := Lib.hid (H4.out.b.below (below_drew0 (one_new W _)))
  have hAz : Hid (Dg (W.alloc (.cells #[] 5)).drew (w.heap.size + 1 + 1) (List.replicate 32 0)) := Lib.hid (H4.out.z.below (below_drew0 (one_new W _)))
  go_region_law (first
    | (have _ := HB6; go_simp; go_at_call 15; refine (rtagged_any sChain v6 (a ++ b) w6 (by decide) (own_bv ho6.out) (by rw [List.length_append, HA.out, HB.out]; omega)).mono ?_; rintro e w7 ⟨rfl, hb7⟩; have HB7 := Lib.hid (HB6.out.trans (hb7.mono HB6.out.size)); have hd7 := HR6.out.below hb7; have hst := store_dg hd7 (by simp) (tg_len (bts sChain) (a ++ b)); have hsz := tg_len (bts sChain) (a ++ b))
    | (have _ := HB5; refine bytes_step rfl (.tmp 7) (.tmp 8) rfl v5 (.slice (some ⟨w.heap.size + 1, 0, none⟩) 32 32) a b (by simp [Act.eval, Act.put]) ho5.out (by simp [Act.eval, Act.put]) (dg_bv HBb5.out HB.out) (by rw [HA.out, HB.out]; omega) ?_; intro v6 w6 ho6 hg6 hv6; have HB6 := Lib.hid (grown_below2 HB5.out HB5.out.size hg6 hv5); have HR6 := Lib.hid (keep_dg HR5.out hg6 (fun k e => by have := hv7 k e; omega)); clear hg6 hv6)
    | (refine bytes_step rfl (.tmp 5) (.tmp 6) rfl (.slice (some ⟨W.heap.size, 0, none⟩) 0 0) (.slice (some ⟨w.heap.size, 0, none⟩) 32 32) [] a (by simp [Act.eval, Act.put]) hOn.out (by simp [Act.eval, Act.put]) (dg_bv hAa.out HA.out) (by rw [HA.out]; simp) ?_; intro v5 w5 ho5 hg5 hv5'
       have HB5 := Lib.hid (grown_below2 hb0.out hb0.out.size hg5 (fun k e => by cases e; exact H4.out.below.size))
       have hv5 := own_from (v := .slice (some ⟨W.heap.size, 0, none⟩) 0 0) (m := w.heap.size) (fun k e => by cases e; exact H4.out.below.size) hb0.out.size hv5'
       have hv7 : ∀ k, v5.ownBlock = some k → w.heap.size + 3 ≤ k := own_from (v := .slice (some ⟨W.heap.size, 0, none⟩) 0 0) (m := w.heap.size + 3) (fun k e => by cases e; show _ ≤ W.heap.size; have := HZ4.out; omega) (by have := HZ4.out; have := HSW.out; show _ ≤ (W.alloc (.cells #[] 5)).heap.size; omega) hv5'
       have HBb5 := Lib.hid (keep_dg hAb.out hg5 (fun k e => by cases e; show _ ≠ W.heap.size; have := HZ4.out; omega))
       have HR5 := Lib.hid (keep_dg hAz.out hg5 (fun k e => by cases e; show _ ≠ W.heap.size; have := HZ4.out; omega))
       clear hg5 hv5'))
  go_wp2_with fail
  exact bodyPost_ret (results_cell_row rfl _ _ (w.heap.size + 1 + 1) 26 _ (0, 0) _ rfl (setRow_heap _ _ _ _ _ _ hd7) Tryd.underlying26 rfl (dg_size (tg_len _ _))) rfl ⟨rfl, Chg.below HB7.out HB7.out.size (by omega) (chg_row _ _ _)⟩
end Go.Proofs.YtekboemijafplaaDoor
