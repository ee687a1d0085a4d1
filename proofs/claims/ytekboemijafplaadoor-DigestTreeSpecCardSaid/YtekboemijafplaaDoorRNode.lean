/-
  Digest: the reference's node.
-/
import Derived.Test.YtekboemijafplaaDoorRTag
import Derived.Test.YtekboemijafplaaDoorTree
namespace Go.Proofs.YtekboemijafplaaDoor
open Go Go.RowKit
set_option maxRecDepth 100000 in
set_option maxHeartbeats 1000000 in
theorem rnode_any (a b : List UInt8) (w : World) (ha : a.length = 32) (hb : b.length = 32) : Calls Tryd.prog 38 #[dgv a, dgv b] w (PairR (bts sNode) a b w) := by
  have HA := Lib.hid ha
  have HB := Lib.hid hb
  clear ha hb
  unfold dgv
  go_enter Tryd.func38, Tryd.ntmps38
  go_wp2_with fail
  generalize hW : ((w.alloc _).alloc _).alloc _ = W
  have h3 : Three w W a b := by rw [← hW]; exact three w a b
  clear hW
  have HZ4 := Lib.hid h3.size
  have H4 := Lib.hid h3
  clear h3
  have hb0 := Lib.hid (below_drew0 (H4.out.below.trans ((one_new W (.cells #[] 5)).mono H4.out.below.size)))
  have HSW := Lib.hid (World.size_alloc W (.cells #[] 5))
  have hOn : Hid (Own (W.alloc (.cells #[] 5)).drew (.slice (some ⟨W.heap.size, 0, none⟩) 0 0) (([] : List UInt8).map byt)) := Lib.hid ((own_nil5 W).keep (Nat.le_refl _) (fun k hk => rfl))
  have hAa : Hid (Dg (W.alloc (.cells #[] 5)).drew w.heap.size a) := Lib.hid (H4.out.a.below (below_drew0 (one_new W _)))
  have hAb : Hid (Dg (W.alloc (.cells #[] 5)).drew (w.heap.size + 1) b) := Lib.hid (H4.out.b.below (below_drew0 (one_new W _)))
  have hAz : Hid (Dg (W.alloc (.cells #[] 5)).drew (w.heap.size + 1 + 1) (List.replicate 32 0)) := Lib.hid (H4.out.z.below (below_drew0 (one_new W _)))
  go_region_law (first
    | (have _ := HB6; go_simp; go_at_call 15; refine (rtagged_any sNode v6 (a ++ b) w6 (by decide) (own_bv ho6.out) (by rw [List.length_append, HA.out, HB.out]; omega)).mono ?_; rintro e w7 ⟨rfl, hb7⟩; have HB7 := Lib.hid (HB6.out.trans (hb7.mono HB6.out.size)); have hd7 := HR6.out.below hb7; have hst := store_dg hd7 (by simp) (tg_len (bts sNode) (a ++ b)); have hsz := tg_len (bts sNode) (a ++ b))
    | (have _ := HB5; refine bytes_step rfl (.tmp 7) (.tmp 8) rfl v5 (.slice (some ⟨w.heap.size + 1, 0, none⟩) 32 32) a b (by simp [Act.eval, Act.put]) ho5.out (by simp [Act.eval, Act.put]) (dg_bv HBb5.out HB.out) (by rw [HA.out, HB.out]; omega) ?_; intro v6 w6 ho6 hg6 hv6; have HB6 := Lib.hid (grown_below2 HB5.out HB5.out.size hg6 hv5); have HR6 := Lib.hid (keep_dg HR5.out hg6 (fun k e => by have := hv7 k e; omega)); clear hg6 hv6)
    | (refine bytes_step rfl (.tmp 5) (.tmp 6) rfl (.slice (some ⟨W.heap.size, 0, none⟩) 0 0) (.slice (some ⟨w.heap.size, 0, none⟩) 32 32) [] a (by simp [Act.eval, Act.put]) hOn.out (by simp [Act.eval, Act.put]) (dg_bv hAa.out HA.out) (by rw [HA.out]; simp) ?_; intro v5 w5 ho5 hg5 hv5'
       have HB5 := Lib.hid (grown_below2 hb0.out hb0.out.size hg5 (fun k e => by cases e; exact H4.out.below.size))
       have hv5 := own_from (v := .slice (some ⟨W.heap.size, 0, none⟩) 0 0) (m := w.heap.size) (fun k e => by cases e; exact H4.out.below.size) hb0.out.size hv5'
       have hv7 : ∀ k, v5.ownBlock = some k → w.heap.size + 3 ≤ k := own_from (v := .slice (some ⟨W.heap.size, 0, none⟩) 0 0) (m := w.heap.size + 3) (fun k e => by cases e; show _ ≤ W.heap.size; have := HZ4.out; omega) (by have := HZ4.out; have := HSW.out; show _ ≤ (W.alloc (.cells #[] 5)).heap.size; omega) hv5'
       have HBb5 := Lib.hid (keep_dg hAb.out hg5 (fun k e => by cases e; show _ ≠ W.heap.size; have := HZ4.out; omega))
       have HR5 := Lib.hid (keep_dg hAz.out hg5 (fun k e => by cases e; show _ ≠ W.heap.size; have := HZ4.out; omega))
       clear hg5 hv5'))
  go_wp2_with fail
  exact bodyPost_ret (results_cell_row rfl _ _ (w.heap.size + 1 + 1) 26 _ (0, 0) _ rfl (setRow_heap _ _ _ _ _ _ hd7) Tryd.underlying26 rfl (dg_size (tg_len _ _))) rfl ⟨rfl, Chg.below HB7.out HB7.out.size (by omega) (chg_row _ _ _)⟩
end Go.Proofs.YtekboemijafplaaDoor
