/-
  Merkle: texts of leaves and of steps.
-/
import Derived.Test.YteeabenmfmeooaaDoorBs
import Derived.Test.YteeabenmfmeooaaDoorPl
namespace Go.Proofs.YteeabenmfmeooaaDoor
open Go Go.RowKit
def sLeaf : ByteArray := ⟨#[108, 101, 97, 102]⟩
def sNode : ByteArray := ⟨#[110, 111, 100, 101]⟩
def sNone : ByteArray := ⟨#[110, 111, 110, 101]⟩
def leafT (l : List UInt8) : List UInt8 := sha (bts sLeaf) ++ l
def nodeT (a b : List UInt8) : List UInt8 := sha (bts sNode) ++ (a ++ b)
theorem leafT_len (l : List UInt8) : (leafT l).length = 32 + l.length := by unfold leafT; rw [List.length_append, sha_len]
theorem nodeT_len {a b : List UInt8} (ha : a.length = 32) (hb : b.length = 32) : (nodeT a b).length = 96 := by unfold nodeT; rw [List.length_append, List.length_append, sha_len, ha, hb]
theorem leafT_any (v : Value) (l : List UInt8) (w : World) (hv : BV w v l) (hl : l.length ≤ 1000000) (hk : KOK w) : Calls Tryd.prog 48 #[v] w (TxtR (leafT l) w) := by
  have HV := Lib.hid hv
  obtain ⟨b, cap, p, rfl, _⟩ := hv
  have HC := Lib.hid (text_any sLeaf (.slice none 0 0) [] w (by decide) ⟨0, 0, none, rfl, Nat.le_refl _, by simp, fun _ => rfl, .inl rfl⟩ (fun d hd => by simp at hd) (by simp) hk)
  go_enter Tryd.func48, Tryd.ntmps48
  go_wp2_with fail
  refine HC.out.mono ?_
  rintro e w1 ⟨u, rfl, ho, hn, hb⟩
  rw [List.flatten_nil, List.append_nil] at ho
  go_wp2_with (refine bytes_own rfl (.tmp 3) (.tmp 4) rfl _ _ (sha (bts sLeaf)) l rfl ho.out rfl (HV.out.below hb) (by rw [sha_len]; omega) ?_; rintro v' w3 ho3 hg3 hv3)
  go_ret
  refine ⟨v', rfl, ho3, fun k hk => ?_, ⟨hg3.os.trans hb.os, hg3.tape.trans hb.tape, hg3.output.trans hb.output, Nat.le_trans hb.size hg3.size, fun k hk => (hg3.block k (by have := hb.size; omega) (fun e => by have := hn k e.symm; omega)).trans (hb.block k hk)⟩⟩
  rcases hv3 with h | ⟨j, h, hj⟩
  · exact hn k (h ▸ hk)
  · rw [h] at hk; cases hk; have := hb.size; omega
/-- the text of a step -/
def stepT (a : Nat) (d o : List UInt8) : List UInt8 := if a % 2 = 1 then nodeT o d else nodeT d o
theorem ld_two (w : World) (a b : List UInt8) : LD (w.alloc (.cells ((a ++ b).map byt).toArray 30)) (.slice (some ⟨w.heap.size, 0, none⟩) 2 2) [a, b] :=
  ⟨w.heap.size, 2, _, rfl, Nat.le_refl _, by unfold maxLen; omega, (fun e => by cases e), .inr ⟨0, rfl, by simp, fun j c hj => by
    rw [Nat.zero_add, World.cell?_alloc_new]
    simpa [fl] using hj⟩⟩
theorem dg_new (w : World) (d : List UInt8) : Dg (w.alloc (.cells (d.map byt).toArray 30)) w.heap.size d := heap_alloc_new _ _
theorem Dg.below {w w' : World} {g : Nat} {l : List UInt8} (h : Dg w g l) (hb : Below w.heap.size w w') : Dg w' g l := (hb.block g (Array.getElem?_eq_some_iff.1 h).1).trans h
theorem wpList_bs2 {ops : Array Oper} {rest : List Oper} {o : Oper} {a : Act} {w : World} {Q : Exit → Act → World → Prop} (hgd : o.guard = none) (t0 t1 : Nat) (ho : o.op = .buildSlice 25 2 #[(0, .tmp t0), (1, .tmp t1)]) (x y : List UInt8) (h0 : a.eval (.tmp t0) = dgv x) (h1 : a.eval (.tmp t1) = dgv y) (hx : x.length = 32) (hy : y.length = 32)
    (h : ∀ w2 : World, Hid (LD w2 (.slice (some ⟨w.heap.size, 0, none⟩) 2 2) [x, y]) → Below w.heap.size w w2 → wpList Tryd.prog ops Q rest (a.put o.dst (.slice (some ⟨w.heap.size, 0, none⟩) 2 2)) w2) : wpList Tryd.prog ops Q (o :: rest) a w := by
  refine wpList_plain hgd fun K hK => ?_
  have h2 := hK _ _ (h _ (Lib.hid (ld_two w x y)) (one_new _ _))
  rw [List.map_append] at h2
  have h0' : a.tmps[t0]?.getD undef = dgv x := by simpa [Act.eval] using h0
  have h1' : a.tmps[t1]?.getD undef = dgv y := by simpa [Act.eval] using h1
  unfold Oper.wp execOp
  simp only [ho]
  go_simp
  rw [fold_row (x.map byt) 0 _ (by simp [hx])]
  rw [if_neg (by simp [hx])]
  rw [fold_off 32 (y.map byt) 0 _ (by simp [hx, hy])]
  simp only [List.length_map, hx, hy, Nat.zero_add, List.take_zero, List.nil_append, Nat.add_zero]
  rw [two_part (n := 32) (by simp [hx]) (by simp [hy]) (by simp)]
  go_simp
  exact h2
/-- the variables of a step's text -/
structure Bx3 (w W : World) (a s : Nat) (d o : List UInt8) : Prop where
  c0 : W.cell? ⟨w.heap.size, 0, none⟩ = some (.int .i64 (a : Int))
  c1 : W.cell? ⟨w.heap.size, 1, none⟩ = some (.int .i64 (s : Int))
  d : Dg W (w.heap.size + 1) d
  o : Dg W (w.heap.size + 1 + 1) o
  below : Below w.heap.size w W
  hz : w.heap.size + 1 + 1 < W.heap.size
theorem bx3 (w : World) (a s : Nat) (d o : List UInt8) : Bx3 w (((w.alloc (.cells #[.int .i64 (a : Int), .int .i64 (s : Int)] 64)).alloc (.cells (d.map byt).toArray 30)).alloc (.cells (o.map byt).toArray 30)) a s d o := by
  have h2 := dg_new (w.alloc (.cells #[.int .i64 (a : Int), .int .i64 (s : Int)] 64)) d
  have h3 := dg_new ((w.alloc (.cells #[.int .i64 (a : Int), .int .i64 (s : Int)] 64)).alloc (.cells (d.map byt).toArray 30)) o
  rw [World.size_alloc] at h2
  rw [World.size_alloc, World.size_alloc] at h3
  exact ⟨by go_simp, by go_simp, h2.below (one_new _ _), h3, (((Below.refl _ _).alloc (Nat.le_refl _) _).alloc (by simp) _).alloc (by simp; omega) _, by simp⟩
theorem Bx3.later {w W W2 : World} {a s : Nat} {d o : List UInt8} (h : Bx3 w W a s d o) (hb : Below W.heap.size W W2) : Bx3 w W2 a s d o :=
  ⟨(hb.cell (p := ⟨w.heap.size, 0, none⟩) (by have := h.hz; simp only; omega)).trans h.c0, (hb.cell (p := ⟨w.heap.size, 1, none⟩) (by have := h.hz; simp only; omega)).trans h.c1, h.d.below hb, h.o.below hb, h.below.trans (hb.mono h.below.size), Nat.lt_of_lt_of_le h.hz hb.size⟩
theorem txt_late {w w1 W : World} {l : List UInt8} {e : Ending} {w' : World} (h : TxtR l w1 e w') (hb : Below w.heap.size w w1) (hW : W = w') : TxtR l w e W := by
  subst hW
  obtain ⟨v, rfl, ho, hn, hb2⟩ := h
  exact ⟨v, rfl, ho, fun k hk => Nat.le_trans hb.size (hn k hk), hb.trans (hb2.mono hb.size)⟩
set_option maxRecDepth 100000 in
set_option maxHeartbeats 1000000 in
theorem stepT_any (a s : Nat) (d o : List UInt8) (w : World) (ha : a < 65536) (hd : d.length = 32) (ho : o.length = 32) (hk : KOK w) : Calls Tryd.prog 49 #[stv a s, dgv d, dgv o] w (TxtR (stepT a d o) w) := by
  have HX := Lib.hid (bx3 w a s d o)
  have HK := Lib.hid hk
  clear hk
  have hodd : ((oth a : Nat) : Int) < (a : Int) ↔ a % 2 = 1 := by unfold oth; split <;> omega
  have h3 : ∀ (x y : List UInt8) (W2 : World), x.length = 32 → y.length = 32 → KOK W2 → ∀ v, LD W2 v [x, y] → Calls Tryd.prog 59 #[.string sNode, v] W2 (TxtR (nodeT x y) W2) := fun x y W2 hx hy hk v hv => by
    have := text_any sNode v [x, y] W2 (by decide) hv (fun z hz => by simp at hz; rcases hz with rfl | rfl; exact hx; exact hy) (by simp) hk
    simpa [nodeT] using this
  have H3 := Lib.hid h3
  clear h3
  unfold dgv
  go_enter Tryd.func49, Tryd.ntmps49
  go_wp2_with fail
  generalize (((w.alloc (.cells #[.int .i64 (a : Int), .int .i64 (s : Int)] 64)).alloc (.cells (d.map byt).toArray 30)).alloc (.cells (o.map byt).toArray 30)) = W at *
  have OC := Lib.hid fun x : Later W => other_any a s x.v ha
  have hzw : w.heap.size < W.heap.size := by have := HX.out.hz; omega
  have t1 := Later.cell hzw HX.out.c0
  have t2 := Later.cell hzw HX.out.c1
  refine wp_region_later (by kernel_rfl) (by kernel_rfl) ?_
  repeat (go_big_quiet_step ((go_at_call 42; exact Later.calls (OC.out _))))
  refine wpQuiet_nil ?_
  intro _ hw'
  obtain ⟨x, hx⟩ := hw'
  subst hx
  have HX2 := Lib.hid (HX.out.later x.b)
  clear t1 t2 OC
  generalize x.v = V at *
  by_cases hp : a % 2 = 1
  · have hp2 : ((oth a : Nat) : Int) < (a : Int) := hodd.2 hp
    clear hodd
    go_wp2_with (first
      | (refine dg_load rfl (.tmp 5) rfl (w.heap.size + 1 + 1) o HX2.out.o ho rfl ?_)
      | (refine dg_load rfl (.tmp 4) rfl (w.heap.size + 1) d HX2.out.d hd rfl ?_)
      | (refine wpList_bs2 rfl 12 13 rfl o d rfl rfl ho hd ?_; rintro V2 hld hb2))
    refine (H3.out o d V2 ho hd (HK.out.below (HX2.out.below.trans (hb2.mono HX2.out.below.size))) _ hld.out).mono ?_
    rintro e V3 hT
    obtain ⟨v, rfl, hown, hn, hb3⟩ := txt_late hT (HX2.out.below.trans (hb2.mono HX2.out.below.size)) rfl
    go_wp2_with fail
    go_ret
    exact ⟨v, rfl, by unfold stepT; rw [if_pos hp]; exact hown, hn, hb3⟩
  · have hp2 : ¬ ((oth a : Nat) : Int) < (a : Int) := fun h => hp (hodd.1 h)
    clear hodd
    go_wp2_with (first
      | (refine dg_load rfl (.tmp 4) rfl (w.heap.size + 1) d HX2.out.d hd rfl ?_)
      | (refine dg_load rfl (.tmp 5) rfl (w.heap.size + 1 + 1) o HX2.out.o ho rfl ?_)
      | (refine wpList_bs2 rfl 16 17 rfl d o rfl rfl hd ho ?_; rintro V2 hld hb2))
    refine (H3.out d o V2 hd ho (HK.out.below (HX2.out.below.trans (hb2.mono HX2.out.below.size))) _ hld.out).mono ?_
    rintro e V3 hT
    obtain ⟨v, rfl, hown, hn, hb3⟩ := txt_late hT (HX2.out.below.trans (hb2.mono HX2.out.below.size)) rfl
    go_wp2_with fail
    go_ret
    exact ⟨v, rfl, by unfold stepT; rw [if_neg hp]; exact hown, hn, hb3⟩
end Go.Proofs.YteeabenmfmeooaaDoor
