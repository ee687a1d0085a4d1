/-
  Digest: the reference's Tree.
-/
import Derived.Test.YtekboemijafplaaDoorRHalf
namespace Go.Proofs.YtekboemijafplaaDoor
open Go Go.RowKit
theorem el_bv {w : World} {b o n cap k : Nat} {l : List (List UInt8)} {d : List UInt8} (h32 : D32 l) (h : LD w (.slice (some ⟨b, o, none⟩) n cap) l) (hk : l[k]? = some d) : BV w (.slice (some ⟨b, o + k * 32, none⟩) 32 32) d := by
  have hr := h.at h32 k d hk
  have hd := h32 d (List.mem_of_getElem? hk)
  have hb : b < w.heap.size := by
    have h0 := hr 0 (byt (d[0]'(by omega))) (by rw [List.getElem?_map, List.getElem?_eq_getElem (by omega)]; rfl)
    exact World.block_lt_of_cell? w _ h0
  exact ⟨b, 32, _, by rw [hd], by rw [hd]; exact Nat.le_refl _, by omega, (fun e => by cases e), .inr ⟨o + k * 32, rfl, hb, fun j c hj => hr j (byt c) (by rw [List.getElem?_map, hj]; rfl)⟩⟩
set_option maxRecDepth 100000 in
set_option maxHeartbeats 1000000 in
theorem rtree_none (w : World) (p : Option Addr) (cap : Nat) : Calls Tryd.prog 18 #[.slice p 0 cap] w (TreeR [] w) := by
  go_enter Tryd.func18, Tryd.ntmps18
  have H1 := Lib.hid (one_new w (.cells ((List.replicate 32 (0 : UInt8)).map byt).toArray 26))
  have H2 := Lib.hid (zeros32 w)
  go_wp2_with (go_at_call 15; refine (rtagged_any sEmpty _ [] _ (by decide) ⟨0, 0, none, rfl, Nat.le_refl _, by omega, fun _ => rfl, .inl rfl⟩ (by simp)).mono ?_; rintro e w1 ⟨rfl, hb1⟩; have hd1 := H2.out.below hb1; have hst := store_dg hd1 (by simp) (tg_len (bts sEmpty) []); have hsz := tg_len (bts sEmpty) [])
  exact bodyPost_ret (results_cell_row rfl _ _ w.heap.size 26 _ (0, 0) _ rfl (setRow_heap _ _ _ _ _ _ hd1) Tryd.underlying26 rfl (dg_size (tg_len _ _))) rfl ⟨rfl, Chg.below (H1.out.trans (hb1.mono (by simp))) (by have := hb1.size; simp at this; omega) (Nat.le_refl _) (chg_row _ _ _)⟩
set_option maxRecDepth 100000 in
set_option maxHeartbeats 1000000 in
theorem rtree_one (w : World) (b o cap : Nat) (d : List UInt8) (hd : d.length = 32) (hv : LD w (.slice (some ⟨b, o, none⟩) 1 cap) [d]) : Calls Tryd.prog 18 #[.slice (some ⟨b, o, none⟩) 1 cap] w (TreeR [d] w) := by
  have HD := Lib.hid hd
  have hr := el_bv (k := 0) (d := d) (by intro x hx; simp at hx; rw [hx, hd]) (hv.below (one_new w (.cells ((List.replicate 32 (0 : UInt8)).map byt).toArray 26))) rfl
  rw [Nat.zero_mul] at hr
  have HR := Lib.hid hr
  clear hd hv hr
  go_enter Tryd.func18, Tryd.ntmps18
  have H1 := Lib.hid (one_new w (.cells ((List.replicate 32 (0 : UInt8)).map byt).toArray 26))
  have H2 := Lib.hid (zeros32 w)
  go_wp2_with (first
    | (go_at_call 15; refine (rtagged_any sLeaf _ d _ (by decide) HR.out (by rw [HD.out]; omega)).mono ?_; rintro e w1 ⟨rfl, hb1⟩; have hd1 := H2.out.below hb1; have hst := store_dg hd1 (by simp) (tg_len (bts sLeaf) d); have hsz := tg_len (bts sLeaf) d))
  rw [← T_one] at *
  exact bodyPost_ret (results_cell_row rfl _ _ w.heap.size 26 _ (0, 0) _ rfl (setRow_heap _ _ _ _ _ _ hd1) Tryd.underlying26 rfl (dg_size (T_len _))) rfl ⟨rfl, Chg.below (H1.out.trans (hb1.mono (by simp))) (by have := hb1.size; simp at this; omega) (Nat.le_refl _) (chg_row _ _ _)⟩
/-- the digest of every list of at most 64 elements -/
def RTreeOk (n : Nat) : Prop := ∀ (l : List (List UInt8)) (v : Value) (w : World), l.length = n → n ≤ 64 → D32 l → LD w v l → Calls Tryd.prog 18 #[v] w (TreeR l w)
set_option maxRecDepth 100000 in
set_option maxHeartbeats 1000000 in
theorem rtree_two (n : Nat) (ih : ∀ m, m < n → RTreeOk m) (hn : 2 ≤ n) : RTreeOk n := by
  intro l v w hl h64 h32 hv
  have hform : ∃ b o cap, v = .slice (some ⟨b, o, none⟩) n cap ∧ n ≤ cap ∧ cap ≤ maxLen := by
    obtain ⟨b, cap, p, rfl, h1, h2, h3, h4⟩ := hv
    rcases h4 with rfl | ⟨o, rfl, _⟩
    · simp at hl; omega
    · exact ⟨b, o, cap, by rw [hl], by omega, h2⟩
  obtain ⟨b, o, cap, rfl, hcap, hmax⟩ := hform
  have hp0 := half_pos n
  have hh := half_lt hn
  have hq := hp_half hn h64
  unfold maxLen at hmax
  have HV := Lib.hid hv
  have H32 := Lib.hid h32
  have HIH := Lib.hid ih
  have HL := Lib.hid hl
  have HT := Lib.hid (T_node l (by omega))
  clear hv h32 ih hl
  go_enter Tryd.func18, Tryd.ntmps18
  have H1 := Lib.hid (one_new w (.cells ((List.replicate 32 (0 : UInt8)).map byt).toArray 26))
  have H2 := Lib.hid (zeros32 w)
  have hz0 : (w.alloc (.cells ((List.replicate 32 (0 : UInt8)).map byt).toArray 26)).heap.size = w.heap.size + 1 := World.size_alloc _ _
  have hn9 : ((n : Int) == 0) = false := by simp; omega
  have hn8 : ((n : Int) == 1) = false := by simp; omega
  go_wp2_with (go_at_call 37; refine (rhalf_any n hn (by omega) _).mono ?_; rw [hq]; rintro e w1 ⟨rfl, hb1⟩)
  have hbB : Below w.heap.size w w1.drew := by
    have h := H1.out.trans (hb1.mono (by simp))
    exact ⟨h.os, h.tape, h.output, h.size, h.block⟩
  have hbZ : Below (w.heap.size + 1) (w.alloc (.cells ((List.replicate 32 (0 : UInt8)).map byt).toArray 26)) w1.drew := by
    have h : Below (w.heap.size + 1) _ w1 := hb1.mono (by simp)
    exact ⟨h.os, h.tape, h.output, h.size, h.block⟩
  have hzW : w.heap.size + 1 ≤ w1.drew.heap.size := by have := hbZ.size; rw [hz0] at this; exact this
  have hd1 : Dg w1.drew w.heap.size (List.replicate 32 0) := (hbZ.block _ (by omega)).trans H2.out
  have hva := (HV.out.below hbB).pre (half n) (by rw [HL.out]; omega)
  have hvb := (HV.out.below hbB).suf H32.out (half n) (by rw [HL.out]; omega)
  have Ca := HIH.out (half n) hh (l.take (half n)) _ w1.drew (by rw [List.length_take, HL.out]; omega) (by omega) (H32.out.take _) hva
  have Cb := fun w2 (hb : Below w1.drew.heap.size w1.drew w2) => HIH.out (n - half n) (by omega) (l.drop (half n)) _ w2 (by rw [List.length_drop, HL.out]) (by omega) (H32.out.drop _) (hvb.below hb)
  have CA := Lib.hid Ca
  have CB := Lib.hid Cb
  have HB := Lib.hid hbB
  have HD := Lib.hid hd1
  clear Ca Cb hva hvb hbB hbZ hb1 hd1 H1 H2 hz0 HV hq
  have hcn : ¬ (cap = half n) := by omega
  have i1 : ((half n : Nat) : Int) ≤ (cap : Int) := by omega
  have i2 : ((half n : Nat) : Int) ≤ (n : Int) := by omega
  have i3 : (n : Int) ≤ (cap : Int) := by omega
  go_region_law (first
    | (have _ := hb3; go_simp; go_at_call 38; refine (rnode_any (T (l.take (half n))) (T (l.drop (half n))) w3 (T_len _) (T_len _)).mono ?_; rintro e w4 ⟨rfl, hb4⟩
       have hbx := (hb2.trans (hb3.mono hb2.size)).trans (hb4.mono (Nat.le_trans hb2.size hb3.size))
       have hd4 := HD.out.below hbx
       have hst := store_dg hd4 (by simp) (tg_len (bts sNode) (T (l.take (half n)) ++ T (l.drop (half n))))
       have hsz := tg_len (bts sNode) (T (l.take (half n)) ++ T (l.drop (half n))))
    | (have h3 := CB.out _ hb2; go_simp; go_at_call 18; refine h3.mono ?_; clear h3; rintro e w3 ⟨rfl, hb3⟩)
    | (go_simp; go_at_call 18; refine CA.out.mono ?_; rintro e w2 ⟨rfl, hb2⟩))
  have hx : tg (bts sNode) (T (l.take (half n)) ++ T (l.drop (half n))) = T l := by rw [HT.out, HL.out]
  rw [hx] at *
  have hb5 := HB.out.trans (hbx.mono (by omega))
  go_wp2_with fail
  exact bodyPost_ret (results_cell_row rfl _ _ w.heap.size 26 _ (0, 0) _ rfl (setRow_heap _ _ _ _ _ _ hd4) Tryd.underlying26 rfl (dg_size (T_len _))) rfl ⟨rfl, Chg.below hb5 (by have := hb5.size; omega) (Nat.le_refl _) (chg_row _ _ _)⟩
theorem rtree_all : ∀ n, RTreeOk n := fun n => Nat.strongRecOn n fun n ih => by
  by_cases hn : 2 ≤ n
  · exact rtree_two n ih hn
  · intro l v w hl h64 h32 hv
    obtain ⟨b, cap, p, rfl, h1, h2, h3, h4⟩ := id hv
    rcases h4 with rfl | ⟨o, rfl, h5, h6⟩
    · exact rtree_none w p cap
    · match l, hl with
      | [], _ => exact rtree_none w _ cap
      | [d], _ => exact rtree_one w b o cap d (h32 d (by simp)) hv
      | d :: d' :: r, hl => simp at hl; omega
theorem rtree_any (l : List (List UInt8)) (v : Value) (w : World) (h64 : l.length ≤ 64) (h32 : D32 l) (hv : LD w v l) : Calls Tryd.prog 18 #[v] w (TreeR l w) := rtree_all l.length l v w rfl h64 h32 hv
end Go.Proofs.YtekboemijafplaaDoor
