/-
  Digest: climb.
-/
import Derived.Test.YtekboemijafplaaDoorPl
import Derived.Deep.RegionHeld2
namespace Go.Proofs.YtekboemijafplaaDoor
open Go Go.RowKit
/-- the digest to which a path leads -/
def clm : Nat → List UInt8 → Nat → Nat → List (List UInt8) → List UInt8
  | 0, d, _, _, _ => d
  | f + 1, d, at', n, p => if n ≤ 1 then tg (bts sLeaf) d else
    if at' < half n then tg (bts sNode) (clm f d at' (half n) p.dropLast ++ p.getLastD []) else tg (bts sNode) (p.getLastD [] ++ clm f d (at' - half n) (n - half n) p.dropLast)
theorem clm_fuel : ∀ (f f' : Nat) (d : List UInt8) (at' n : Nat) (p : List (List UInt8)), n ≤ f → n ≤ f' → 1 ≤ n → clm f d at' n p = clm f' d at' n p
  | 0, _, _, _, _, _, h, _, h1 => by omega
  | f + 1, 0, _, _, _, _, _, h, h1 => by omega
  | f + 1, f' + 1, d, at', n, p, h, h', _ => by
    unfold clm
    by_cases h1 : n ≤ 1
    · simp [h1]
    have hp := half_pos n
    have hl := half_lt (n := n) (by omega)
    rw [if_neg h1, if_neg h1, clm_fuel f f' d at' (half n) _ (by omega) (by omega) hp, clm_fuel f f' d (at' - half n) (n - half n) _ (by omega) (by omega) (by omega)]
def CL (d : List UInt8) (at' n : Nat) (p : List (List UInt8)) : List UInt8 := clm n d at' n p
theorem CL_one (d : List UInt8) (at' : Nat) (p : List (List UInt8)) : CL d at' 1 p = tg (bts sLeaf) d := by simp [CL, clm]
theorem CL_two (d : List UInt8) (at' n : Nat) (p : List (List UInt8)) (h : 2 ≤ n) : CL d at' n p =
    if at' < half n then tg (bts sNode) (CL d at' (half n) p.dropLast ++ p.getLastD []) else tg (bts sNode) (p.getLastD [] ++ CL d (at' - half n) (n - half n) p.dropLast) := by
  have hp := half_pos n
  have hl := half_lt h
  unfold CL
  obtain ⟨f, hf⟩ : ∃ f, n = f + 1 := ⟨n - 1, by omega⟩
  conv => lhs; rw [hf]; unfold clm; rw [← hf]
  rw [if_neg (by omega), clm_fuel f _ d at' (half n) _ (by omega) (Nat.le_refl _) hp, clm_fuel f _ d (at' - half n) (n - half n) _ (by omega) (Nat.le_refl _) (by omega)]
theorem CL_len (d : List UInt8) (at' n : Nat) (p : List (List UInt8)) (h : 1 ≤ n) : (CL d at' n p).length = 32 := by
  by_cases h1 : n = 1
  · subst h1; rw [CL_one]; exact tg_len _ _
  · rw [CL_two _ _ _ _ (by omega)]
    split <;> exact tg_len _ _
def ClR (d : List UInt8) (at' n : Nat) (p : List (List UInt8)) (w : World) (e : Ending) (w' : World) : Prop := e = .returned (dgv (CL d at' n p)) ∧ Below w.heap.size w w'
/-- two boxes -/
structure Two (w W : World) (d : List UInt8) : Prop where
  a : Dg W w.heap.size d
  z : Dg W (w.heap.size + 1) (List.replicate 32 0)
  below : Below w.heap.size w W
  size : W.heap.size = w.heap.size + 2
theorem two (w : World) (d : List UInt8) : Two w ((w.alloc (.cells (d.map byt).toArray 26)).alloc (.cells ((List.replicate 32 (0 : UInt8)).map byt).toArray 26)) d := by
  have h2 := zeros32 (w.alloc (.cells (d.map byt).toArray 26))
  rw [World.size_alloc] at h2
  exact ⟨(dg_new w d).below (one_new _ _), h2, ((Below.refl _ _).alloc (Nat.le_refl _) _).alloc (by simp) _, by simp⟩
theorem Two.drew {w W : World} {d : List UInt8} (h : Two w W d) : Two w W.drew d := ⟨h.a, h.z, ⟨h.below.os, h.below.tape, h.below.output, h.below.size, h.below.block⟩, h.size⟩
def ClOk (n : Nat) : Prop := ∀ (d : List UInt8) (at' : Nat) (p : List (List UInt8)) (v : Value) (w : World), 1 ≤ n → n ≤ 64 → at' < n → d.length = 32 → D32 p → p.length = PL at' n → LD w v p → KOK w →
  Calls Tryd.prog 42 #[dgv d, .int .i64 (at' : Int), .int .i64 (n : Int), v] w (ClR d at' n p w)
set_option maxRecDepth 100000 in
set_option maxHeartbeats 1000000 in
theorem cl_one : ClOk 1 := by
  intro d at' p v w _ _ _ hd _ _ _ hk
  have HK := Lib.hid hk
  have HD := Lib.hid hd
  clear hk hd
  go_enter Tryd.func42, Tryd.ntmps42
  have H2 := Lib.hid (two w d)
  go_wp2_with (first
    | (refine dg_load rfl (.tmp 4) rfl w.heap.size d H2.out.a HD.out rfl ?_)
    | (go_at_call 34; refine (leaf_any d _ HD.out (HK.out.below H2.out.below)).mono ?_; rintro e w1 ⟨rfl, hb1⟩; have hd1 : Dg w1 (w.heap.size + 1) _ := H2.out.z.below hb1; have hst := store_dg hd1 (by simp) (tg_len (bts sLeaf) d); have hsz := tg_len (bts sLeaf) d; have hb2 := H2.out.below.trans (hb1.mono (by have := H2.out.size; omega))))
  rw [← CL_one d at' p] at *
  exact bodyPost_ret (results_cell_row rfl _ _ (w.heap.size + 1) 26 _ (0, 0) _ rfl (setRow_heap _ _ _ _ _ _ hd1) Tryd.underlying26 rfl (dg_size (CL_len _ _ _ _ (by omega)))) rfl ⟨rfl, Chg.below hb2 (by have := hb2.size; omega) (by omega) (chg_row _ _ _)⟩
theorem dg_range {w : World} {g : Nat} {l : List UInt8} (h : Dg w g l) : w.rangeAt g 0 (l.map byt) := fun j v hj => by
  rw [Nat.zero_add]
  rw [List.getElem?_map] at hj
  cases hlj : l[j]? with
  | none => rw [hlj] at hj; cases hj
  | some c =>
    rw [hlj] at hj
    cases hj
    rw [h.get j (List.getElem?_eq_some_iff.1 hlj).1]
    simp [List.getD, hlj]
theorem dg_there {w : World} {g : Nat} {l : List UInt8} (h : Dg w g l) (hl : l.length = 32) : w.there g 0 32 := fun j hj => by
  rw [Nat.zero_add]
  exact ⟨by rw [h.get j (by omega)]; rfl, h.free j⟩
theorem dg_setCells {w : World} {g : Nat} {l l' : List UInt8} (h : Dg w g l') (hl' : l'.length = 32) (hl : l.length = 32) : w.setCells g 0 (l.map byt) = w.setRow g (l.map byt).toArray := by
  have h1 := store_dg h hl' hl
  have h2 := run_storeCells_cells (P := Tryd.prog) g 0 (l.map byt) 0 w (fun j hj => by
      rw [List.length_map] at hj
      have := dg_there h hl' j (by omega)
      simpa using this.1) (fun j hj => by
      have := h.free j
      simpa using this) (fun v hv => by
      obtain ⟨c, _, rfl⟩ := List.mem_map.1 hv
      rfl)
  simp only [Nat.add_zero] at h2
  rw [h1] at h2
  simpa using h2.symm
theorem el_run {w : World} {b off : Nat} {l : List UInt8} (hl : w.rangeAt b off (l.map byt)) (hx : l.length = 32) : (Instr.loadAt 26 (.pointer (some ⟨b, off, none⟩))).run Tryd.prog w = .ok (dgv l) w :=
  run_loadAt_mid w b off 26 (l.map byt) _ hl Tryd.underlying26 rfl (by rw [size26, List.length_map, hx])
theorem last_at {p : List (List UInt8)} (h : 1 ≤ p.length) : p[p.length - 1]? = some (p.getLastD []) := by
  rw [List.getLastD_eq_getLast?, List.getLast?_eq_getElem?]
  have : p.length - 1 < p.length := by omega
  simp [List.getElem?_eq_getElem this]
theorem below_drew {m : Nat} {w w' : World} (h : Below m w w') : Below m w w'.drew := ⟨h.os, h.tape, h.output, h.size, h.block⟩
/-- three boxes -/
structure Cw (w V : World) (d x : List UInt8) : Prop where
  a : Dg V w.heap.size d
  z : Dg V (w.heap.size + 1) (List.replicate 32 0)
  x : Dg V (w.heap.size + 2) x
  below : Below w.heap.size w V
  size : w.heap.size + 3 ≤ V.heap.size
theorem Cw.later {w V V' : World} {d x : List UInt8} (h : Cw w V d x) (hb : Below V.heap.size V V') : Cw w V' d x :=
  ⟨h.a.below hb, h.z.below hb, h.x.below hb, h.below.trans (hb.mono h.below.size), Nat.le_trans h.size hb.size⟩
theorem cl_world {w W : World} {d x : List UInt8} (h : Two w W d) (hx : x.length = 32) : Cw w ((W.alloc (.cells ((List.replicate 32 (0 : UInt8)).map byt).toArray 26)).drew.setCells (w.heap.size + 2) 0 (x.map byt)) d x ∧ Below W.heap.size W ((W.alloc (.cells ((List.replicate 32 (0 : UInt8)).map byt).toArray 26)).drew.setCells (w.heap.size + 2) 0 (x.map byt)) := by
  have hz : Dg (W.alloc (.cells ((List.replicate 32 (0 : UInt8)).map byt).toArray 26)).drew (w.heap.size + 2) (List.replicate 32 0) := by
    have := zeros32 W
    rw [h.size] at this
    exact this
  have hb : Below W.heap.size W (W.alloc (.cells ((List.replicate 32 (0 : UInt8)).map byt).toArray 26)).drew := below_drew (one_new W _)
  have hs : (W.alloc (.cells ((List.replicate 32 (0 : UInt8)).map byt).toArray 26)).drew.heap.size = w.heap.size + 3 := (World.size_alloc _ _).trans (by rw [h.size])
  rw [dg_setCells hz (by simp) hx]
  generalize (W.alloc (.cells ((List.replicate 32 (0 : UInt8)).map byt).toArray 26)).drew = U at hz hb hs
  have hc := chg_row U (w.heap.size + 2) (x.map byt).toArray
  have hb2 := h.below.trans (hb.mono (by have := h.size; omega))
  exact ⟨⟨(hc.block _ (by omega) (by omega)).trans (h.a.below hb), (hc.block _ (by omega) (by omega)).trans (h.z.below hb), setRow_heap _ _ _ _ _ _ hz, Chg.below hb2 (by omega) (by omega) hc, by have := hc.size; omega⟩, Chg.below hb (by have := h.size; omega) (by have := h.size; omega) hc⟩
/-- number i first, its temporary named -/
theorem take_at {P : Program} {ops : Array Oper} {Q : Exit → Act → World → Prop} {md : Region.Mode} {S : World → Prop} {i k : Nat} {oi : Oper} {v : Value} {fuel : Nat} {listed : Array Bool} {a : Act} {w : World} (hi : ops[i]? = some oi) (hd : oi.dst = some k)
    (hs : Region.noSelect ops = true) (hf : Region.free md ops listed i = true) (hr : (Region.ready md ops listed).contains i = true)
    (hQ : ∀ c a w, Q (.panic c) (a.put oi.dst v) w → Q (.panic c) a w) (hy : YieldsIf P ops S oi v a) (hS : S w)
    (h : wpAnyH P md ops Q S fuel (listed.setIfInBounds i true) (a.put (some k) v) w) : wpAnyH P md ops Q S (fuel + 1) listed a w :=
  wpAnyH_take hi hs hf hr hQ hy hS (by rw [hd]; exact h)
theorem Cw.row {w V : World} {d x r : List UInt8} (h : Cw w V d x) : Dg (V.setRow (w.heap.size + 1) (r.map byt).toArray) w.heap.size d ∧ Dg (V.setRow (w.heap.size + 1) (r.map byt).toArray) (w.heap.size + 2) x ∧
    Dg (V.setRow (w.heap.size + 1) (r.map byt).toArray) (w.heap.size + 1) r ∧ Below w.heap.size w (V.setRow (w.heap.size + 1) (r.map byt).toArray) := by
  have hc := chg_row V (w.heap.size + 1) (r.map byt).toArray
  have hz := h.size
  exact ⟨(hc.block _ (by omega) (by omega)).trans h.a, (hc.block _ (by omega) (by omega)).trans h.x, setRow_heap _ _ _ _ _ _ h.z, Chg.below h.below (by omega) (by omega) hc⟩
set_option maxRecDepth 100000 in
set_option maxHeartbeats 2000000 in
theorem cl_two (n : Nat) (ih : ∀ m, m < n → ClOk m) (hn : 2 ≤ n) : ClOk n := by
  intro d at' p v w _ h64 hat hd h32 hp hv hk
  have hpos : 1 ≤ p.length := by
    rw [hp, PL_two _ _ hn]
    split <;> omega
  have hform : ∃ b o cap, v = .slice (some ⟨b, o, none⟩) p.length cap ∧ p.length ≤ cap ∧ cap ≤ maxLen := by
    obtain ⟨b, cap, q, rfl, h1, h2, h3, h4⟩ := hv
    rcases h4 with rfl | ⟨o, rfl, _⟩
    · simp at hpos
    · exact ⟨b, o, cap, rfl, h1, h2⟩
  obtain ⟨b, o, cap, rfl, hcap, hmax⟩ := hform
  unfold maxLen at hmax
  have hblt : b < w.heap.size := by
    obtain ⟨b', cap', q', e, _, _, _, h4⟩ := hv
    cases e
    rcases h4 with rfl | ⟨o', e', h5, _⟩
    · simp at hpos
    · cases e'; exact h5
  have hq : p.dropLast = p.take (p.length - 1) := List.dropLast_eq_take
  have hq32 : D32 p.dropLast := by rw [hq]; exact h32.take _
  have hx := last_at hpos
  have hx32 : (p.getLastD []).length = 32 := h32 _ (List.mem_of_getElem? hx)
  have hc := CL_two d at' n p hn
  have hql : p.dropLast.length = p.length - 1 := List.length_dropLast
  have hpl := PL_two at' n hn
  have hplt := PL_lt n at' (by omega)
  generalize hQ : p.dropLast = q at *
  generalize hX : p.getLastD [] = x at *
  generalize hM : p.length = m at *
  have hlp := half_pos n
  have hll := half_lt hn
  have HK := Lib.hid hk
  have HD := Lib.hid hd
  have HX := Lib.hid hx32
  have HC := Lib.hid hc
  have HIH := Lib.hid ih
  have HQ32 := Lib.hid hq32
  have HPL := Lib.hid hpl
  have HP := Lib.hid hp
  have HQL := Lib.hid hql
  have hn1 : ((n : Int) == 1) = false := by simp; omega
  have hml : m < n := by omega
  clear hp hk hd hx32 hc ih hq32 hpl hql
  go_enter Tryd.func42, Tryd.ntmps42
  go_wp2_with fail
  generalize hW : ((w.alloc _).alloc _) = W
  have H2 : Hid (Two w W d) := Lib.hid (by rw [← hW]; exact two w d)
  clear hW
  have h3 := H2.out.drew
  have hv2 := hv.below h3.below
  have hr := hv2.at h32 (m - 1) x hx
  have hva : LD W.drew (.slice (some ⟨b, o, none⟩) (m - 1) cap) q := by rw [hq]; exact hv2.pre (m - 1) (by omega)
  have hl1 := el_run hr HX.out
  have hr2 : (W.drew.alloc (.cells ((List.replicate 32 (0 : UInt8)).map byt).toArray 26)).rangeAt b (o + (m - 1) * 32) (x.map byt) := fun j u hj => by
    rw [World.cell?_of_block (w := W.drew) (a := ⟨b, _, none⟩) (heap_alloc_old _ _ (by show b < W.heap.size; have := H2.out.size; omega))]
    exact hr j u hj
  have hl2 := el_run hr2 HX.out
  have hz := zeros32 W.drew
  have hst := store_dg hz (by simp) HX.out
  have hs1 : IntKind.i64.wrap ((m : Int) - 1) = ((m - 1 : Nat) : Int) := by rw [IntWalk.i64_in _ (by omega)]; omega
  have hsz : W.heap.size = w.heap.size + 2 := H2.out.size
  have hmc : m ≤ cap + 1 := by omega
  have hmm : m - 1 < m := by omega
  have HVA := Lib.hid hva
  have hth : (W.alloc (.cells ((List.replicate 32 (0 : UInt8)).map byt).toArray 26)).drew.there (w.heap.size + 2) 0 (x.map byt).length := by
    have h := dg_there hz (by simp)
    rw [List.length_map, HX.out, ← hsz]
    exact h
  have hrx : W.rangeAt b (o + (m - 1) * 32) (x.map byt) := hr
  have hu26 := Tryd.underlying26
  have hsx : (Tryd.prog.info? 26).map (·.size) = some (x.map byt).length := by rw [size26, List.length_map, HX.out]
  have hox : ∀ v ∈ x.map byt, v.oneCell' = true := fun v hv => by
    obtain ⟨c, _, rfl⟩ := List.mem_map.1 hv
    rfl
  clear hva hv hq hx h32 hv2 hr hr2 h3 hl1 hl2 hst hz
  go_region_held2 (fun w' => w'.rangeAt b (o + (m - 1) * 32) (x.map byt)) (go_keep_ranges) (fail)
  generalize hV : World.setCells _ _ _ _ = V
  have h3W : Cw w V d x ∧ Below W.heap.size W V := by rw [← hV]; exact cl_world H2.out HX.out
  have H3 := Lib.hid h3W.1
  have HVB := Lib.hid (HVA.out.below (w' := V) ⟨h3W.2.os, h3W.2.tape, h3W.2.output, h3W.2.size, h3W.2.block⟩)
  clear hV h3W HVA hth hrx H2
  have hsd : (Tryd.prog.info? 26).map (·.size) = some (d.map byt).length := by rw [size26, List.length_map, HD.out]
  by_cases hlt : at' < half n
  · have hc := HC.out
    have hp := HPL.out
    have hm := HP.out
    have hl := HQL.out
    rw [if_pos hlt] at hc hp
    have hql : q.length = PL at' (half n) := by omega
    have HC1 := Lib.hid hc
    have HQL1 := Lib.hid hql
    clear HC HPL HP hc hp hm hl hql HQL
    go_wp2_with (go_at_call 35; refine (fp_any n hn h64 _).mono ?_; rintro e w4 ⟨rfl, hb4⟩)
    have h4 := H3.out.later hb4
    have h4d := H3.out.later (below_drew hb4)
    have hra := dg_range h4.a
    have hrx := dg_range h4.x
    have C := Lib.hid (HIH.out (half n) (by omega) d at' q _ w4.drew (by omega) (by omega) (by omega) HD.out HQ32.out HQL1.out (HVB.out.below (below_drew hb4)) (HK.out.below h4d.below))
    have H4 := Lib.hid h4d
    clear h4 h4d HVB HIH H3
    refine wp_region_held_drew (S := fun w' => w'.rangeAt w.heap.size 0 (d.map byt) ∧ w'.rangeAt (w.heap.size + 2) 0 (x.map byt)) (by kernel_rfl) ⟨hra, hrx⟩ (fun hHeld => ?_)
    refine take_at (i := 0) (v := dgv d) rfl rfl (by kernel_rfl) (by kernel_rfl) (by kernel_rfl) (fun _ _ _ h => h) (yieldsIf_load_mid (by rfl) 26 (.tmp 4) rfl w.heap.size 0 rfl (d.map byt) _ (fun w' h => h.1) Tryd.underlying26 rfl hsd) hHeld ?_
    try simp only [Act.put, List.setIfInBounds_toArray, List.set_cons_zero, List.set_cons_succ]
    refine take_at (i := 1) (v := .int .i64 (at' : Int)) rfl rfl (by kernel_rfl) (by kernel_rfl) (by kernel_rfl) (fun _ _ _ h => h) (Or.inl ⟨by rfl, fun w _ => rfl⟩) hHeld ?_
    try simp only [Act.put, List.setIfInBounds_toArray, List.set_cons_zero, List.set_cons_succ]
    refine take_at (i := 2) (v := .int .i64 (half n : Int)) rfl rfl (by kernel_rfl) (by kernel_rfl) (by kernel_rfl) (fun _ _ _ h => h) (Or.inl ⟨by rfl, fun w _ => rfl⟩) hHeld ?_
    try simp only [Act.put, List.setIfInBounds_toArray, List.set_cons_zero, List.set_cons_succ]
    refine take_at (i := 3) (v := .slice (some ⟨b, o, none⟩) (m - 1) cap) rfl rfl (by kernel_rfl) (by kernel_rfl) (by kernel_rfl) (fun _ _ _ h => h) (Or.inl ⟨by rfl, fun w _ => rfl⟩) hHeld ?_
    try simp only [Act.put, List.setIfInBounds_toArray, List.set_cons_zero, List.set_cons_succ]
    refine take_at (i := 5) (v := dgv x) rfl rfl (by kernel_rfl) (by kernel_rfl) (by kernel_rfl) (fun _ _ _ h => h) (yieldsIf_load_mid (by rfl) 26 (.tmp 10) rfl (w.heap.size + 2) 0 rfl (x.map byt) _ (fun w' h => h.2) Tryd.underlying26 rfl hsx) hHeld ?_
    try simp only [Act.put, List.setIfInBounds_toArray, List.set_cons_zero, List.set_cons_succ]
    clear hHeld
    refine wpAnyH_ready (rs := [4]) (by kernel_rfl) (by simp) ?_
    refine AllReadyH.cons rfl (fun K hK => ?_) AllReadyH.nil
    go_simp
    go_at_call 42
    refine C.out.mono ?_
    rintro e w5 ⟨rfl, hb5⟩
    have H5 := Lib.hid (H4.out.later hb5)
    refine hK.out _ _ ⟨dg_range H5.out.a, dg_range H5.out.x⟩ (fun _ => ?_)
    try simp only [Act.put, List.setIfInBounds_toArray, List.set_cons_zero, List.set_cons_succ]
    refine wpAnyH_ready (rs := [6]) (by kernel_rfl) (by simp) ?_
    refine AllReadyH.cons rfl (fun K hK => ?_) AllReadyH.nil
    go_simp
    go_at_call 36
    refine (pair_any sNode (CL d at' (half n) q) x w5 (by decide) (CL_len _ _ _ _ (by omega)) HX.out (HK.out.below H5.out.below)).mono ?_
    rintro e w6 ⟨rfl, hb6⟩
    rw [← HC1.out]
    have H6 := Lib.hid (H5.out.later hb6)
    refine hK.out _ _ ⟨dg_range H6.out.a, dg_range H6.out.x⟩ (fun _ => ?_)
    try simp only [Act.put, List.setIfInBounds_toArray, List.set_cons_zero, List.set_cons_succ]
    refine wpAnyH_ready (rs := [7]) (by kernel_rfl) (by simp) ?_
    refine AllReadyH.cons rfl (fun K hK => ?_) AllReadyH.nil
    have hst := store_dg H6.out.z (by simp) (CL_len d at' n p (by omega))
    have hsz := CL_len d at' n p (by omega)
    go_simp
    have H7 := Lib.hid (H6.out.row (r := CL d at' n p))
    refine hK.out _ _ ⟨dg_range H7.out.1, dg_range H7.out.2.1⟩ (fun _ => ?_)
    try simp only [Act.put, List.setIfInBounds_toArray, List.set_cons_zero, List.set_cons_succ]
    refine wpAnyH_done (by kernel_rfl) ?_ _
    clear hst hsz
    go_wp2_with fail
    exact bodyPost_ret (results_cell_row rfl _ _ (w.heap.size + 1) 26 _ (0, 0) _ rfl H7.out.2.2.1 Tryd.underlying26 rfl (dg_size (CL_len _ _ _ _ (by omega)))) rfl ⟨rfl, H7.out.2.2.2⟩
  · have hc := HC.out
    have hp := HPL.out
    have hm := HP.out
    have hl := HQL.out
    rw [if_neg hlt] at hc hp
    have hql : q.length = PL (at' - half n) (n - half n) := by omega
    have HC1 := Lib.hid hc
    have HQL1 := Lib.hid hql
    clear HC HPL HP hc hp hm hl hql HQL
    have e1 : IntKind.i64.wrap ((at' : Int) - (half n : Int)) = ((at' - half n : Nat) : Int) := by rw [IntWalk.i64_in _ (by omega)]; omega
    have e2 : IntKind.i64.wrap ((n : Int) - (half n : Int)) = ((n - half n : Nat) : Int) := by rw [IntWalk.i64_in _ (by omega)]; omega
    go_wp2_with (go_at_call 35; refine (fp_any n hn h64 _).mono ?_; rintro e w4 ⟨rfl, hb4⟩)
    have h4 := H3.out.later hb4
    have h4d := H3.out.later (below_drew hb4)
    have hra := dg_range h4.a
    have hrx := dg_range h4.x
    have C := Lib.hid (HIH.out (n - half n) (by omega) d (at' - half n) q _ w4.drew (by omega) (by omega) (by omega) HD.out HQ32.out HQL1.out (HVB.out.below (below_drew hb4)) (HK.out.below h4d.below))
    have H4 := Lib.hid h4d
    clear h4 h4d HVB HIH H3
    refine wp_region_held_drew (S := fun w' => w'.rangeAt w.heap.size 0 (d.map byt) ∧ w'.rangeAt (w.heap.size + 2) 0 (x.map byt)) (by kernel_rfl) ⟨hra, hrx⟩ (fun hHeld => ?_)
    refine take_at (i := 0) (v := dgv x) rfl rfl (by kernel_rfl) (by kernel_rfl) (by kernel_rfl) (fun _ _ _ h => h) (yieldsIf_load_mid (by rfl) 26 (.tmp 10) rfl (w.heap.size + 2) 0 rfl (x.map byt) _ (fun w' h => h.2) Tryd.underlying26 rfl hsx) hHeld ?_
    try simp only [Act.put, List.setIfInBounds_toArray, List.set_cons_zero, List.set_cons_succ]
    refine take_at (i := 1) (v := dgv d) rfl rfl (by kernel_rfl) (by kernel_rfl) (by kernel_rfl) (fun _ _ _ h => h) (yieldsIf_load_mid (by rfl) 26 (.tmp 4) rfl w.heap.size 0 rfl (d.map byt) _ (fun w' h => h.1) Tryd.underlying26 rfl hsd) hHeld ?_
    try simp only [Act.put, List.setIfInBounds_toArray, List.set_cons_zero, List.set_cons_succ]
    refine take_at (i := 2) (v := .int .i64 (at' : Int)) rfl rfl (by kernel_rfl) (by kernel_rfl) (by kernel_rfl) (fun _ _ _ h => h) (Or.inl ⟨by rfl, fun w _ => rfl⟩) hHeld ?_
    try simp only [Act.put, List.setIfInBounds_toArray, List.set_cons_zero, List.set_cons_succ]
    refine take_at (i := 3) (v := .int .i64 (half n : Int)) rfl rfl (by kernel_rfl) (by kernel_rfl) (by kernel_rfl) (fun _ _ _ h => h) (Or.inl ⟨by rfl, fun w _ => rfl⟩) hHeld ?_
    try simp only [Act.put, List.setIfInBounds_toArray, List.set_cons_zero, List.set_cons_succ]
    refine take_at (i := 4) (v := .int .i64 ((at' - half n : Nat) : Int)) rfl rfl (by kernel_rfl) (by kernel_rfl) (by kernel_rfl) (fun _ _ _ h => h) (Or.inl ⟨by rfl, fun w _ => by go_simp⟩) hHeld ?_
    try simp only [Act.put, List.setIfInBounds_toArray, List.set_cons_zero, List.set_cons_succ]
    refine take_at (i := 5) (v := .int .i64 (n : Int)) rfl rfl (by kernel_rfl) (by kernel_rfl) (by kernel_rfl) (fun _ _ _ h => h) (Or.inl ⟨by rfl, fun w _ => rfl⟩) hHeld ?_
    try simp only [Act.put, List.setIfInBounds_toArray, List.set_cons_zero, List.set_cons_succ]
    refine take_at (i := 6) (v := .int .i64 (half n : Int)) rfl rfl (by kernel_rfl) (by kernel_rfl) (by kernel_rfl) (fun _ _ _ h => h) (Or.inl ⟨by rfl, fun w _ => rfl⟩) hHeld ?_
    try simp only [Act.put, List.setIfInBounds_toArray, List.set_cons_zero, List.set_cons_succ]
    refine take_at (i := 7) (v := .int .i64 ((n - half n : Nat) : Int)) rfl rfl (by kernel_rfl) (by kernel_rfl) (by kernel_rfl) (fun _ _ _ h => h) (Or.inl ⟨by rfl, fun w _ => by go_simp⟩) hHeld ?_
    try simp only [Act.put, List.setIfInBounds_toArray, List.set_cons_zero, List.set_cons_succ]
    refine take_at (i := 8) (v := .slice (some ⟨b, o, none⟩) (m - 1) cap) rfl rfl (by kernel_rfl) (by kernel_rfl) (by kernel_rfl) (fun _ _ _ h => h) (Or.inl ⟨by rfl, fun w _ => rfl⟩) hHeld ?_
    try simp only [Act.put, List.setIfInBounds_toArray, List.set_cons_zero, List.set_cons_succ]
    clear hHeld
    refine wpAnyH_ready (rs := [9]) (by kernel_rfl) (by simp) ?_
    refine AllReadyH.cons rfl (fun K hK => ?_) AllReadyH.nil
    go_simp
    go_at_call 42
    refine C.out.mono ?_
    rintro e w5 ⟨rfl, hb5⟩
    have H5 := Lib.hid (H4.out.later hb5)
    refine hK.out _ _ ⟨dg_range H5.out.a, dg_range H5.out.x⟩ (fun _ => ?_)
    try simp only [Act.put, List.setIfInBounds_toArray, List.set_cons_zero, List.set_cons_succ]
    refine wpAnyH_ready (rs := [10]) (by kernel_rfl) (by simp) ?_
    refine AllReadyH.cons rfl (fun K hK => ?_) AllReadyH.nil
    go_simp
    go_at_call 36
    refine (pair_any sNode x (CL d (at' - half n) (n - half n) q) w5 (by decide) HX.out (CL_len _ _ _ _ (by omega)) (HK.out.below H5.out.below)).mono ?_
    rintro e w6 ⟨rfl, hb6⟩
    rw [← HC1.out]
    have H6 := Lib.hid (H5.out.later hb6)
    refine hK.out _ _ ⟨dg_range H6.out.a, dg_range H6.out.x⟩ (fun _ => ?_)
    try simp only [Act.put, List.setIfInBounds_toArray, List.set_cons_zero, List.set_cons_succ]
    refine wpAnyH_ready (rs := [11]) (by kernel_rfl) (by simp) ?_
    refine AllReadyH.cons rfl (fun K hK => ?_) AllReadyH.nil
    have hst := store_dg H6.out.z (by simp) (CL_len d at' n p (by omega))
    have hsz := CL_len d at' n p (by omega)
    go_simp
    have H7 := Lib.hid (H6.out.row (r := CL d at' n p))
    refine hK.out _ _ ⟨dg_range H7.out.1, dg_range H7.out.2.1⟩ (fun _ => ?_)
    try simp only [Act.put, List.setIfInBounds_toArray, List.set_cons_zero, List.set_cons_succ]
    refine wpAnyH_done (by kernel_rfl) ?_ _
    clear hst hsz
    go_wp2_with fail
    exact bodyPost_ret (results_cell_row rfl _ _ (w.heap.size + 1) 26 _ (0, 0) _ rfl H7.out.2.2.1 Tryd.underlying26 rfl (dg_size (CL_len _ _ _ _ (by omega)))) rfl ⟨rfl, H7.out.2.2.2⟩
theorem cl_all : ∀ n, ClOk n := fun n => Nat.strongRecOn n fun n ih => by
  by_cases hn : 2 ≤ n
  · exact cl_two n ih hn
  · intro d at' p v w h1
    obtain rfl : n = 1 := by omega
    exact cl_one d at' p v w h1
end Go.Proofs.YtekboemijafplaaDoor
