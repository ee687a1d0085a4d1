/-
  Digest: leaves, pairs, chains.
-/
import Derived.Test.YtekboemijafplaaDoorTag
import Derived.Deep.RegionWith
import Derived.Deep.RegionLaw
namespace Go.Proofs.YtekboemijafplaaDoor
open Go Go.RowKit
def sLeaf : ByteArray := ⟨#[108, 101, 97, 102]⟩
def sNode : ByteArray := ⟨#[110, 111, 100, 101]⟩
def sChain : ByteArray := ⟨#[99, 104, 97, 105, 110]⟩
def sEmpty : ByteArray := ⟨#[101, 109, 112, 116, 121]⟩
theorem dg_bv {w : World} {g : Nat} {l : List UInt8} (h : Dg w g l) (hl : l.length = 32) : BV w (.slice (some ⟨g, 0, none⟩) 32 32) l := own_bv (dg_own h hl)
theorem dg_new (w : World) (d : List UInt8) : Dg (w.alloc (.cells (d.map byt).toArray 26)) w.heap.size d := heap_alloc_new _ _
theorem Dg.below {w w' : World} {g : Nat} {l : List UInt8} (h : Dg w g l) (hb : Below w.heap.size w w') : Dg w' g l := (hb.block g (Array.getElem?_eq_some_iff.1 h).1).trans h
def LeafR (d : List UInt8) (w : World) (e : Ending) (w' : World) : Prop := e = .returned (dgv (tg (bts sLeaf) d)) ∧ Below w.heap.size w w'
set_option maxRecDepth 100000 in
set_option maxHeartbeats 1000000 in
theorem leaf_any (d : List UInt8) (w : World) (hd : d.length = 32) (hk : KOK w) : Calls Tryd.prog 34 #[dgv d] w (LeafR d w) := by
  have HK := Lib.hid hk
  have HD := Lib.hid hd
  clear hk hd
  unfold dgv
  go_enter Tryd.func34, Tryd.ntmps34
  go_wp2_with fail
  have hw2 := (one_new w (.cells (d.map byt).toArray 26)).trans ((one_new (w.alloc (.cells (d.map byt).toArray 26)) (.cells ((List.replicate 32 (0 : UInt8)).map byt).toArray 26)).mono (by simp))
  refine (tagged_any sLeaf _ d _ (by decide) (dg_bv ((dg_new w d).below (one_new _ _)) HD.out) (by rw [HD.out]; omega) (HK.out.below hw2)).mono ?_
  rintro e w1 ⟨rfl, hb1⟩
  have hbA : Below (w.heap.size + 2) ((w.alloc (.cells (d.map byt).toArray 26)).alloc (.cells ((List.replicate 32 (0 : UInt8)).map byt).toArray 26)) w1 := hb1.mono (by simp)
  have hd1 : Dg w1 (w.heap.size + 1) (List.replicate 32 0) := (hbA.block _ (by omega)).trans (by have := zeros32 (w.alloc (.cells (d.map byt).toArray 26)); rw [World.size_alloc] at this; exact this)
  have hb2 : Below w.heap.size w w1 := hw2.trans (hbA.mono (by omega))
  have hz := hbA.size
  simp only [World.size_alloc] at hz
  have HD1 := Lib.hid hd1
  clear hw2 hb1 hbA hd1
  go_wp2_with (refine dg_store rfl (.tmp 2) (.tmp 4) rfl (w.heap.size + 1) _ _ HD1.out (by simp) (sha_len _) rfl rfl ?_; rintro w2 hd2 hc2)
  exact bodyPost_ret (results_cell_row rfl _ _ (w.heap.size + 1) 26 _ (0, 0) _ rfl hd2.out Tryd.underlying26 rfl (dg_size (sha_len _))) rfl ⟨rfl, Chg.below hb2 hb2.size (by omega) hc2⟩
/-- append bytes, at a step of a region that draws its order -/
theorem bytes_step {ops : Array Oper} {o : Oper} {a : Act} {w : World} {K : Act → World → Prop} {Q : Exit → Act → World → Prop} {E : Prop} (hgd : o.guard = none) (s x : Operand) (ho : o.op = .call { callee := .builtin .append, args := #[s, x], argTypes := #[22, 22] })
    (v xv : Value) (l l' : List UInt8) (hs : a.eval s = v) (hown : Own w v (l.map byt)) (hx : a.eval x = xv) (hb : BV w xv l') (hl : l.length + l'.length ≤ 1099511627776)
    (h : ∀ v' w', Hid (Own w' v' ((l ++ l').map byt)) → w.grownBy w' v.ownBlock → (v'.ownBlock = v.ownBlock ∨ ∃ k, v'.ownBlock = some k ∧ w.heap.size ≤ k) → K (a.put o.dst v') w') : if Region.wanted o (yielded ops a.tmps) = true then Oper.wp Tryd.prog o a w K Q else E := by
  have h5 := info5
  cases hi : Tryd.prog.info? 5 with
  | none => rw [hi] at h5; cases h5
  | some i =>
    rw [hi] at h5
    simp only [Option.map_some, Option.some.injEq, Prod.mk.injEq] at h5
    obtain ⟨s1, s2, s3⟩ := h5
    refine step_own hgd s x 22 22 ho 5 i (.int .u8 0) 1 Tryd.underlying22 hi s3 s1 s2 rfl v xv (l.map byt) hs hown l'.length (l'.map byt) hx (bv_src hb) (by rw [List.length_map]; unfold maxLen; omega) (by rw [List.length_map]; omega) ?_
    intro v' w' h1 h2 h3
    exact h v' w' (Lib.hid (by rw [List.map_append]; exact h1)) h2 h3
/-- a digest is stored, at a step of a region that draws its order -/
theorem dg_step {ops : Array Oper} {o : Oper} {a : Act} {w : World} {K : Act → World → Prop} {Q : Exit → Act → World → Prop} {E : Prop} (hgd : o.guard = none) (x y : Operand) (ho : o.op = .store 26 x y) (g : Nat) (l' l : List UInt8) (hl : Dg w g l') (hy : l'.length = 32) (hx : l.length = 32)
    (hp : a.eval x = .pointer (some ⟨g, 0, none⟩)) (hv : a.eval y = dgv l) (h : ∀ w2 : World, Hid (Dg w2 g l) → Chg g w w2 → K (a.put o.dst undef) w2) : if Region.wanted o (yielded ops a.tmps) = true then Oper.wp Tryd.prog o a w K Q else E := by
  have hw : Region.wanted o (yielded ops a.tmps) = true := by simp [Region.wanted, hgd]
  rw [if_pos hw]
  exact wp_store_row 26 x y ho g _ hp hv 26 _ hl (dg_size hx) (by simp [hx, hy]) (byt_one l) (h _ (Lib.hid (setRow_heap _ _ _ _ _ _ hl)) (chg_row _ _ _))
/-- the boxes of a pair, and its result -/
structure Three (w W : World) (a b : List UInt8) : Prop where
  a : Dg W w.heap.size a
  b : Dg W (w.heap.size + 1) b
  z : Dg W (w.heap.size + 1 + 1) (List.replicate 32 0)
  below : Below w.heap.size w W
  size : W.heap.size = w.heap.size + 3
theorem three (w : World) (a b : List UInt8) : Three w (((w.alloc (.cells (a.map byt).toArray 26)).alloc (.cells (b.map byt).toArray 26)).alloc (.cells ((List.replicate 32 (0 : UInt8)).map byt).toArray 26)) a b := by
  have h2 := dg_new (w.alloc (.cells (a.map byt).toArray 26)) b
  have h3 := zeros32 ((w.alloc (.cells (a.map byt).toArray 26)).alloc (.cells (b.map byt).toArray 26))
  rw [World.size_alloc] at h2
  rw [World.size_alloc, World.size_alloc] at h3
  exact ⟨((dg_new w a).below (one_new _ _)).below (one_new _ _), h2.below (one_new _ _), h3, (((Below.refl _ _).alloc (Nat.le_refl _) _).alloc (by simp) _).alloc (by simp; omega) _, by simp⟩
theorem Three.drew {w W : World} {a b : List UInt8} (h : Three w W a b) : Three w W.drew a b := ⟨h.a, h.b, h.z, ⟨h.below.os, h.below.tape, h.below.output, h.below.size, h.below.block⟩, h.size⟩
/-- a digest is stored: what the walk asks -/
theorem store_dg {w : World} {g : Nat} {l' : List UInt8} (hl : Dg w g l') (hy : l'.length = 32) {l : List UInt8} (hx : l.length = 32) : Sem.run Tryd.prog (storeCells ⟨g, 0, none⟩ (l.map byt)) w = .ok () (w.setRow g (l.map byt).toArray) := by
  have h := run_storeCells_from (P := Tryd.prog) g 26 (l.map byt) 0 (l'.map byt).toArray w hl (by simp [hx, hy]) (fun v hv => by
    obtain ⟨c, _, rfl⟩ := List.mem_map.1 hv
    rfl)
  simpa [hx, hy] using h
def PairR (t a b : List UInt8) (w : World) (e : Ending) (w' : World) : Prop := e = .returned (dgv (tg t (a ++ b))) ∧ Below w.heap.size w w'
set_option maxRecDepth 100000 in
set_option maxHeartbeats 1000000 in
theorem pair_any (s : ByteArray) (a b : List UInt8) (w : World) (hs : s.size ≤ 1000000) (ha : a.length = 32) (hb : b.length = 32) (hk : KOK w) : Calls Tryd.prog 36 #[.string s, dgv a, dgv b] w (PairR (bts s) a b w) := by
  have HK := Lib.hid hk
  have HA := Lib.hid ha
  have HB := Lib.hid hb
  clear hk ha hb
  unfold dgv
  go_enter Tryd.func36, Tryd.ntmps36
  go_wp2_with fail
  generalize hW : ((w.alloc _).alloc _).alloc _ = W
  have h3 : Three w W a b := by rw [← hW]; exact three w a b
  clear hW
  have h4 := h3.drew
  have hz4 := h4.size
  have H4 := Lib.hid h4
  clear h3 h4
  go_region_law (first
    | (refine bytes_step rfl (.tmp 8) (.tmp 9) rfl (.slice (some ⟨w.heap.size, 0, none⟩) 32 32) (.slice (some ⟨w.heap.size + 1, 0, none⟩) 32 32) a b (by simp [Act.eval, Act.put]) (dg_own H4.out.a HA.out) (by simp [Act.eval, Act.put]) (dg_bv H4.out.b HB.out) (by rw [HA.out, HB.out]; omega) ?_; intro v' w3 ho3 hg3 hv3; have hc3 := grown_chg (g := w.heap.size) hg3 rfl; have hb3 := Chg.below H4.out.below H4.out.below.size (by omega) hc3; have hd3 : Dg w3 (w.heap.size + 1 + 1) (List.replicate 32 0) := (hc3.block _ (by omega) (by omega)).trans H4.out.z; have hz3 := hc3.size)
    | (go_simp; go_at_call 14; refine (tagged_any s v' (a ++ b) w3 hs (own_bv ho3.out) (by rw [List.length_append, HA.out, HB.out]; omega) (HK.out.below hb3)).mono ?_; rintro e w4 ⟨rfl, hb4⟩; have hb5 := hb3.trans (hb4.mono (by omega)); have hd4 : Dg w4 (w.heap.size + 1 + 1) (List.replicate 32 0) := (hb4.block _ (by omega)).trans hd3; have hst := store_dg hd4 (by simp) (tg_len (bts s) (a ++ b)); have hsz := tg_len (bts s) (a ++ b)))
  go_wp2_with fail
  exact bodyPost_ret (results_cell_row rfl _ _ (w.heap.size + 1 + 1) 26 _ (0, 0) _ rfl (setRow_heap _ _ _ _ _ _ hd4) Tryd.underlying26 rfl (dg_size (tg_len _ _))) rfl ⟨rfl, Chg.below hb5 hb5.size (by omega) (chg_row _ _ _)⟩
set_option maxRecDepth 100000 in
set_option maxHeartbeats 1000000 in
theorem chain_any (a b : List UInt8) (w : World) (ha : a.length = 32) (hb : b.length = 32) (hk : KOK w) : Calls Tryd.prog 25 #[dgv a, dgv b] w (PairR (bts sChain) a b w) := by
  have HK := Lib.hid hk
  have HA := Lib.hid ha
  have HB := Lib.hid hb
  clear hk ha hb
  go_enter Tryd.func25, Tryd.ntmps25
  have H3 := Lib.hid (three w a b)
  go_wp2_with (first
    | (refine dg_load rfl (.tmp 2) rfl w.heap.size a H3.out.a HA.out rfl ?_)
    | (refine dg_load rfl (.tmp 3) rfl (w.heap.size + 1) b H3.out.b HB.out rfl ?_))
  refine (pair_any sChain a b _ (by decide) HA.out HB.out (HK.out.below H3.out.below)).mono ?_
  rintro e w1 ⟨rfl, hb1⟩
  have hz1 := hb1.size
  rw [show (World.heap _).size = w.heap.size + 3 from H3.out.size] at hz1
  have hd1 : Dg w1 (w.heap.size + 1 + 1) (List.replicate 32 0) := H3.out.z.below hb1
  have hb2 : Below w.heap.size w w1 := H3.out.below.trans (hb1.mono H3.out.below.size)
  have hst := store_dg hd1 (by simp) (tg_len (bts sChain) (a ++ b))
  have hsz := tg_len (bts sChain) (a ++ b)
  clear hb1 H3
  go_wp2_with fail
  exact bodyPost_ret (results_cell_row rfl _ _ (w.heap.size + 1 + 1) 26 _ (0, 0) _ rfl (setRow_heap _ _ _ _ _ _ hd1) Tryd.underlying26 rfl (dg_size (tg_len _ _))) rfl ⟨rfl, Chg.below hb2 hb2.size (by omega) (chg_row _ _ _)⟩
end Go.Proofs.YtekboemijafplaaDoor
