/-
  Links: mended, the program's: a new list of all pairs but one.
-/
import Derived.Test.YtpempgajejbdoaaOth
import Derived.Test.YtpempgajejbdoaaOwnN
import Derived.Test.YtpempgajejbdoaaMid
import Derived.RangeFuncFrom
namespace Go.Proofs.Ytpempgajejbdoaa
open Go Go.RowKit Go.Shelf
attribute [local go_sem] Oper.semAt_some
variable {F : Nat → Prop}
/-- the cells of a list of pairs -/
def lcs : List Lk → List Value
  | [] => []
  | z :: r => .int .i64 z.1 :: .int .i64 z.2 :: lcs r
theorem lcs_append : ∀ (a b : List Lk), lcs (a ++ b) = lcs a ++ lcs b
  | [], b => rfl
  | z :: r, b => by simp [lcs, lcs_append r b]
theorem lcs_len : ∀ (a : List Lk), (lcs a).length = a.length * 2
  | [] => rfl
  | z :: r => by simp [lcs, lcs_len r]; omega
theorem lcs_at : ∀ (a : List Lk) (j : Nat) (z : Lk), a[j]? = some z → (lcs a)[j * 2]? = some (.int .i64 z.1) ∧ (lcs a)[j * 2 + 1]? = some (.int .i64 z.2)
  | [], j, z, h => by simp at h
  | y :: r, 0, z, h => by cases h; exact ⟨rfl, rfl⟩
  | y :: r, j + 1, z, h => by
    have ih := lcs_at r j z (by simpa using h)
    exact ⟨by rw [show (j + 1) * 2 = j * 2 + 2 by omega]; exact ih.1, by rw [show (j + 1) * 2 + 1 = j * 2 + 1 + 2 by omega]; exact ih.2⟩
/-- a new list of the call's own: these pairs -/
structure OwnL (m : Nat) (w : World) (v : Value) (s : List Lk) : Prop where
  own : OwnN 2 w v s.length (lcs s)
  new : ∀ k, v.ownBlock = some k → m ≤ k
  nil : s = [] → v = .slice none 0 0
theorem inf55 : ∃ i, Try.prog.info? 55 = some i ∧ i.zero = some (.agg #[.int .i64 0, .int .i64 0]) ∧ i.size = 2 ∧ i.bytes = 16 := by
  have h : (Try.prog.info? 55).map (fun i => (i.zero, i.size, i.bytes)) = some (some (.agg #[.int .i64 0, .int .i64 0]), 2, 16) := by kernel_rfl
  cases hi : Try.prog.info? 55 with
  | none => rw [hi] at h; cases h
  | some i =>
    rw [hi] at h
    simp only [Option.map_some, Option.some.injEq, Prod.mk.injEq] at h
    exact ⟨i, rfl, h.1, h.2.1, h.2.2⟩
theorem OwnL.grown {m : Nat} {w w' : World} {v : Value} {s : List Lk} {row : Option Nat} (h : OwnL m w v s) (hg : w.grownBy w' row) (hr : ∀ r, row = some r → ∃ o : Obj, w.heap[r]? = some o ∧ o.isCells = false) : OwnL m w' v s := by
  refine ⟨?_, h.new, h.nil⟩
  cases s with
  | nil => rw [h.nil rfl]; exact .inl ⟨rfl, rfl, rfl⟩
  | cons z r =>
    refine h.own.keep hg.size fun k hk => hg.block k (h.own.lt hk) fun e => ?_
    obtain ⟨o, ho, hc⟩ := hr k e.symm
    rcases h.own with ⟨e1, _⟩ | ⟨g, cap, e1, hb⟩
    · rw [e1] at hk; cases hk
    · rw [e1] at hk
      obtain rfl : g = k := by simpa [Value.ownBlock] using hk
      have := hb.there 0 (by have := hb.le; simp at this; omega)
      unfold World.cell? at this
      rw [ho] at this
      cases o <;> simp [Obj.isCells] at hc this
theorem OwnL.cells {m : Nat} {w : World} {v : Value} {s : List Lk} (h : OwnL m w v s) {k : Nat} {o : Obj} (hk : v.ownBlock = some k) (ho : w.heap[k]? = some o) : o.isCells = true := by
  cases s with
  | nil => rw [h.nil rfl] at hk; cases hk
  | cons z r =>
    rcases h.own with ⟨e1, _⟩ | ⟨g, cap, e1, hb⟩
    · rw [e1] at hk; cases hk
    · rw [e1] at hk
      obtain rfl : g = k := by simpa [Value.ownBlock] using hk
      have := hb.there 0 (by have := hb.le; simp at this; omega)
      unfold World.cell? at this
      rw [ho] at this
      cases o <;> simp [Obj.isCells] at this ⊢
theorem men_world (w : World) (a b c d : Value) : ∃ W0, ((((w.alloc (.cells #[a, b] 55)).alloc (.cells #[c] 23)).alloc (.cells #[d] 23)).alloc (.cells #[a, b] 55)) = W0 ∧ W0.heap.size = w.heap.size + 4 ∧ Below w.heap.size w W0 ∧
    W0.cell? ⟨w.heap.size + 1, 0, none⟩ = some c ∧ W0.frozen? ⟨w.heap.size + 1, 0, none⟩ = false ∧ W0.cell? ⟨w.heap.size + 1 + 1, 0, none⟩ = some d ∧ W0.cell? ⟨w.heap.size + 1 + 1 + 1, 0, none⟩ = some a ∧ W0.cell? ⟨w.heap.size + 1 + 1 + 1, 1, none⟩ = some b := by
  refine ⟨_, rfl, by simp, ((((Below.refl _ w).alloc (Nat.le_refl _) _).alloc (by simp) _).alloc (by simp; omega) _).alloc (by simp; omega) _, ?_, ?_, ?_, ?_, ?_⟩
  all_goals go_simp
theorem wpListIn_ownN {F : Fence} {N : Nat} {P : Program} {sz n : Nat} {ops : Array Oper} {rest : List Oper} {o : Oper} {a : Act} {w : World} {Q : Exit → Act → World → Prop} (hgd : o.guard = none) (s x : Operand) (t tx : TypeId) (ho : o.op = .call { callee := .builtin .append, args := #[s, x], argTypes := #[t, tx] })
    (e : TypeId) (i : TypeInfo) (z : Value) (bytes : Nat) (ht : P.underlying t = some (.slice e)) (hi : P.info? e = some i) (hz : i.zero = some z) (hsize : i.size = sz) (hpos : 0 < sz) (hby : i.bytes = bytes) (hzs : z.cells.size = sz)
    (v xv : Value) (xs : List Value) (hs : a.eval s = v) (hown : OwnN sz w v n xs) (m : Nat) (news : List Value) (hx : a.eval x = xv) (hsrc : Src P sz tx xv m news w)
    (h63 : n + m ≤ maxLen) (hbytes : (n + m) * bytes ≤ 140737488355328)
    (h : ∀ v' w', OwnN sz w' v' (n + m) (xs ++ news) → w.grownBy w' v.ownBlock → (v'.ownBlock = v.ownBlock ∨ ∃ k, v'.ownBlock = some k ∧ w.heap.size ≤ k) → wpListIn F N P ops Q rest (a.put o.dst v') w') : wpListIn F N P ops Q (o :: rest) a w := by
  refine wpListIn_plain hgd fun K hK' => ?_
  obtain ⟨v', w', hrun, r1, r2, r3⟩ := ownN_append (P := P) hown t tx o.type e i z bytes ht hi hz hsize hpos hby hzs xv m news hsrc h63 hbytes
  unfold Oper.wpIn
  refine ⟨?_, ?_⟩
  · simp [Oper.about, ho, resolve, Target.leads, Sem.run_pure]
  · rw [Oper.semAt_plain F _ _ (by rw [ho]; intro c hc'; cases hc')]
    simp [execOp, ho, resolve, invoke, builtin, hs, hx, hrun, Result.andThen]
    exact hK' _ _ (h v' w' r1 r2 r3)
theorem two_vl {w : World} {x y : Value} {T : TypeId} (h : x.oneCell' = true ∧ y.oneCell' = true) : VL 2 (w.alloc (.cells #[x, y] T)) (.slice (some ⟨w.heap.size, 0, none⟩) 1 1) 1 [x, y] :=
  ⟨_, 1, rfl, Nat.le_refl _, by unfold maxLen; omega, (fun e => by cases e), rfl, (fun u hu => by
    simp only [List.mem_cons, List.not_mem_nil, or_false] at hu
    rcases hu with rfl | rfl
    · exact h.1
    · exact h.2), .inr ⟨_, 0, rfl, by simp, fun j u hu => by
    rw [Nat.zero_add, World.cell?_alloc_new]
    simpa using hu⟩⟩
theorem OwnL.form {m : Nat} {w : World} {v : Value} {s : List Lk} (h : OwnL m w v s) : ∃ p c, v = .slice p s.length c := by
  rcases h.own with ⟨rfl, h, _⟩ | ⟨g, c, rfl, _⟩
  · rw [h]; exact ⟨_, _, rfl⟩
  · exact ⟨_, _, rfl⟩
theorem OwnL.setCell {m : Nat} {w : World} {v : Value} {s : List Lk} (h : OwnL m w v s) {k o : Nat} (hk : k < m) (u : Value) : OwnL m (w.setCell ⟨k, o, none⟩ u) v s :=
  ⟨h.own.keep (by simp [World.setCell]) fun j hj => by rw [Below.heap_setCell _ _ _ _ (by simp only; have := h.new j hj; omega)], h.new, h.nil⟩
theorem kpb_put {n B : Nat} {w : World} (hn : n ≤ w.heap.size) (hB : B < w.heap.size) (W : World) (l : Nat) (o o' : Obj) (hl : w.heap.size ≤ l) (h : W.heap[l]? = some o) (h1 : o.isCells = false) (h2 : o.isWalk = false) : KpB n B W (W.putObj l o') :=
  ⟨belowK_b hn W l o o' hl h h1 h2, (grownBy_putObj' W l o').block B (by have := (Array.getElem?_eq_some_iff.1 h).1; omega) (fun e => by cases e; omega)⟩
/-- one pair more -/
theorem OwnL.next {m : Nat} {w w2 : World} {v v2 : Value} {s : List Lk} {z : Lk} (h : OwnL m w v s) (hm : m ≤ w.heap.size) (ho : OwnN 2 w2 v2 (s.length + 1) (lcs s ++ [.int .i64 z.1, .int .i64 z.2])) (hn : v2.ownBlock = v.ownBlock ∨ ∃ k, v2.ownBlock = some k ∧ w.heap.size ≤ k) : OwnL m w2 v2 (s ++ [z]) :=
  ⟨by rw [List.length_append, lcs_append]; exact ho, fun k e => by
    rcases hn with h1 | ⟨k', h1, h2⟩
    · exact h.new k (by rw [← h1]; exact e)
    · rw [h1] at e; cases e; omega, fun e => by simp at e⟩
/-- it returns a new list of these pairs -/
def RetL (s : List Lk) (w : World) (e : Ending) (w' : World) : Prop := ∃ v, e = .returned v ∧ OwnL w.heap.size w' v s ∧ Below w.heap.size w w'
set_option maxRecDepth 100000 in
set_option maxHeartbeats 2000000 in
theorem mended_any (v : Value) (s : List Lk) (x y : Int) (w : World) (h : AV F w v s) (hlen : s.length ≤ 4096) : Calls Try.prog 35 #[v, .agg #[.int .i64 x, .int .i64 y]] w (RetL (but s (x, y)) w) := by
  obtain ⟨pa, ca, rfl, h1, h2, _⟩ := h.shape
  unfold maxLen at h2
  obtain ⟨M, hM⟩ : ∃ M, s.length = M := ⟨_, rfl⟩
  rw [hM] at h h1 hlen ⊢
  obtain ⟨i0, hi0, hz0, hsz0, hby0⟩ := inf55
  refine (callsIn_wide (n := 3)).1 ?_
  refine callsIn_of_wp_marks Try.func35 rfl trivial ?_ rfl
  simp only [Try.ntmps35, List.size_toArray, List.length_cons, List.length_nil, Nat.reduceAdd, Nat.reduceSub, Array.replicate_succ, Array.replicate_zero, List.push_toArray, List.append_toArray, List.nil_append, List.cons_append]
  gi_wp2_with (refine ⟨trivial, ?_⟩; gi_at_call 46; refine (others_in _ _ trivial rfl _ _ _ _ _ _).mono ?_; rintro e w' ⟨rfl, rfl⟩)
  obtain ⟨W0, hW0, hsz, hB0, k1, f1, k2, k3, k4⟩ := men_world w (.int .i64 x) (.int .i64 y) (.slice none 0 0) (.slice pa M ca)
  rw [hW0]
  have hc0 : ∀ (j : Nat) (z : Lk), s[j]? = some z → ∃ b o, pa = some ⟨b, o, none⟩ ∧ b < w.heap.size ∧ W0.cell? ⟨b, o + j * 2, none⟩ = some (.int .i64 z.1) ∧ W0.cell? ⟨b, o + j * 2 + 1, none⟩ = some (.int .i64 z.2) := fun j z hz => by
    obtain ⟨b, o, x', y', e, hb, g0, g1, HL, _⟩ := h.lkAt j (List.getElem?_eq_some_iff.1 hz).1
    have := HL.out
    rw [hz] at this
    cases this
    exact ⟨b, o, e, hb, (bcells hB0 hb _).trans g0, (bcells hB0 hb _).trans g1⟩
  clear h
  refine wpIn_rangeFunc_ownH (w := W0) rfl (by omega) (gf := 51) (lb := #[.pointer (some ⟨w.heap.size + 1 + 1, 0, none⟩), .pointer (some ⟨w.heap.size + 1 + 1 + 1, 0, none⟩)]) rfl trivial (enters_of Try.func51 (by kernel_rfl) rfl)
    (oth_stops Fence.wide 2 trivial rfl (by omega) (w.heap.size + 1 + 1) (w.heap.size + 1 + 1 + 1) w.heap.size M ca pa s x y hM h1 (by omega) W0 (by omega) k2 (by omega) k3 k4 (by omega) hc0) (fun a b => a.trans b) (kpb_put (by omega) (by omega)) (Below.refl _ _) (fun _ => rfl)
    (fun pre W => (∃ v, W.cell? ⟨w.heap.size + 1, 0, none⟩ = some v ∧ W.frozen? ⟨w.heap.size + 1, 0, none⟩ = false ∧ OwnL W0.heap.size W v pre ∧ W0.heap.size ≤ W.heap.size) ∧ Below w.heap.size w W)
    (fun _ _ _ => False)
    (OwnFrom.and (fun s A B row hs hg hr => by obtain ⟨v, e1, e2, e3, e4⟩ := hs; exact ⟨v, cell_kept e1 hg (fun r e => (hr r e).2), (frozen_kept e1 hg (fun r e => (hr r e).2)).trans e2, e3.grown hg (fun r e => (hr r e).2), Nat.le_trans e4 hg.size⟩) (ownFrom_below (Nat.le_refl _) (by omega)))
    (fun c => fun s A B row hs hg hr => hs)
    ⟨⟨_, k1, f1, ⟨.inl ⟨rfl, rfl, rfl⟩, (fun k e => by cases e), fun _ => rfl⟩, Nat.le_refl _⟩, hB0⟩
    (fun z a' W => ∃ Bx, W0.heap.size ≤ Bx ∧ W.cell? ⟨Bx, 0, none⟩ = some (.int .i64 z.1) ∧ W.cell? ⟨Bx, 1, none⟩ = some (.int .i64 z.2) ∧ a' = { tmps := #[.slice pa M ca, .agg #[.int .i64 x, .int .i64 y], undef, .pointer (some ⟨w.heap.size, 0, none⟩), .pointer (some ⟨w.heap.size + 1, 0, none⟩), .pointer (some ⟨Bx, 0, none⟩), .slice pa M ca, .agg #[.int .i64 x, .int .i64 y], .func (.func 51) #[] #[.pointer (some ⟨w.heap.size + 1 + 1, 0, none⟩), .pointer (some ⟨w.heap.size + 1 + 1 + 1, 0, none⟩)], .agg #[.int .i64 z.1, .int .i64 z.2], undef, undef, undef, undef, undef], defers := [] })
    (fun x a' => Own.from (fun s A B row hs hg hr => by obtain ⟨Bx, e1, e2, e3, e4⟩ := hs; exact ⟨Bx, e1, cell_kept e2 hg hr, cell_kept e3 hg hr, e4⟩) _)
    ?assign ?body ?done ?stop
  case assign =>
    rintro l pre z W K ⟨⟨v, e1, e2, e3, e4⟩, hB⟩ hK
    gi_wp2
    exact hK _ _ ((KeepsOthers.alloc _ _).from _) ((KpB.refl _ _ W).alloc (by omega) (by omega) _) ⟨⟨v, cell_kept e1 (World.grownBy_alloc W _ none) (fun r e => by cases e), (frozen_kept e1 (World.grownBy_alloc W _ none) (fun r e => by cases e)).trans e2, e3.grown (World.grownBy_alloc W _ none) (fun r e => by cases e), by simp; omega⟩, hB.alloc (by omega) _⟩ ⟨W.heap.size, e4, by go_simp, by go_simp, rfl⟩
  case body =>
    rintro l pre z a' W hl ⟨r, hr⟩ ⟨⟨v, e1, e2, e3, e4⟩, hB⟩ ⟨Bx, hBx, b0, b1, rfl⟩ hlt
    obtain ⟨pv, cv, rfl⟩ := e3.form
    have hBr : w.heap.size + 1 < W.heap.size := by omega
    gi_wp2_with (gi_at_builtin; go_loud (refine wpListIn_ownN rfl (.tmp 10) (.tmp 12) 23 23 rfl 55 i0 _ 16 Try.underlying23 hi0 hz0 hsz0 (by decide) hby0 rfl (.slice pv pre.length cv) (.slice (some ⟨W.heap.size, 0, none⟩) 1 1) (lcs pre) rfl (e3.own.alloc _) 1 [.int .i64 z.1, .int .i64 z.2] rfl ((two_vl ⟨rfl, rfl⟩).src Try.underlying23) (by unfold maxLen; omega) (by omega) ?_; intro v' w' ho hg hn; have HG := Lib.hid hg; have hnx := Lib.hid (e3.next e4 ho (by rcases hn with hn | ⟨k, hn, hk⟩; exact .inl hn; exact .inr ⟨k, hn, by simp at hk; omega⟩)); have hblk : w'.heap[w.heap.size + 1]? = W.heap[w.heap.size + 1]? := (hg.block _ (by simp; omega) (fun e => by have := e3.new _ e.symm; omega)).trans (Below.heap_alloc W _ _ hBr); have g1 := (World.cell?_of_block (w := W) (a := ⟨w.heap.size + 1, 0, none⟩) hblk).trans e1; have g2 := (World.frozen?_of_block (w := W) (a := ⟨w.heap.size + 1, 0, none⟩) hblk).trans e2; obtain ⟨pv', cv', rfl⟩ := hnx.out.form; clear ho hg hn))
    have hl1 : (pre ++ [z]).length = pre.length + 1 := by simp
    have hnx2 := hnx.out
    rw [hl1] at hnx2
    have hsz' : W.heap.size ≤ w'.heap.size := by have := HG.out.size; simp at this; omega
    have hkeep : KeepsOthers W (w'.setCell ⟨w.heap.size + 1, 0, none⟩ (.slice pv' (pre.length + 1) cv')) := ((KeepsOthers.alloc W _).trans (KeepsOthers.of_grownBy HG.out (fun j o e ho => by
      have hj := e3.own.lt e
      exact e3.cells e ((Below.heap_alloc W _ j hj).symm.trans ho)))).trans (KeepsOthers.setCell _ _ _)
    have hW' : ∀ k, k < W.heap.size → (k < W0.heap.size) → w'.heap[k]? = W.heap[k]? := fun k hk hk0 => (HG.out.block k (by simp; omega) (fun e => by have := e3.new k e.symm; omega)).trans (Below.heap_alloc W _ k hk)
    have hbel : Below w.heap.size W (w'.setCell ⟨w.heap.size + 1, 0, none⟩ (.slice pv' (pre.length + 1) cv')) := by
      have h0 : Below w.heap.size W w' := ⟨HG.out.os, HG.out.tape, HG.out.output, hsz', fun k hk => hW' k (by have := hB.size; omega) (by omega)⟩
      exact below_set h0 (by omega) _
    refine ⟨hkeep.from _, ⟨hbel, ?_⟩, ⟨⟨_, World.cell?_setCell_same' _ _ _ (by rw [g1]; rfl), by rw [World.frozen?_setCell]; exact g2, hnx2.setCell (by omega) _, by show _ ≤ (w'.setCell _ _).heap.size; simp [World.setCell]; omega⟩, hB.trans hbel⟩⟩
    rw [Below.heap_setCell _ _ _ _ (by simp only; omega)]
    exact hW' _ (by omega) (by omega)
  case done =>
    rintro D ys W hD rfl ⟨⟨v, e1, e2, e3, e4⟩, hB⟩ hK
    obtain ⟨pv, cv, rfl⟩ := e3.form
    gi_wp2
    have hK' := (KeepsOthers.setCell W ⟨w.heap.size + 1, 0, none⟩ (.slice pv (but s (x, y)).length cv)).same D _ hK rfl
    refine ⟨by simp, .inl ⟨_, _, rfl, run_takeDeferred hK', ?_⟩⟩
    have hc5 := cell_kept (World.cell?_setCell_same' W ⟨w.heap.size + 1, 0, none⟩ (.slice pv (but s (x, y)).length cv) (by rw [e1]; rfl)) (grownBy_putObj' _ D (.deferred none)) (fun r e => by cases e; exact ⟨_, hK', rfl⟩)
    have hb5 : Below w.heap.size w (W.setCell ⟨w.heap.size + 1, 0, none⟩ (.slice pv (but s (x, y)).length cv)) := below_set hB (by omega) _
    have hBW : Below w.heap.size w ((W.setCell ⟨w.heap.size + 1, 0, none⟩ (.slice pv (but s (x, y)).length cv)).putObj D (.deferred none)) := hb5.trans (belowK_b (w := w) (Nat.le_refl _) _ D _ _ (by omega) hK' rfl rfl)
    have e5 := (e3.setCell (k := w.heap.size + 1) (o := 0) (by omega) (.slice pv (but s (x, y)).length cv)).grown (grownBy_putObj' _ D (.deferred none)) (fun r e => by cases e; exact ⟨_, hK', rfl⟩)
    refine ⟨.slice pv (but s (x, y)).length cv, ?_, _, rfl, ⟨e5.own, fun k hk => by have := e5.new k hk; omega, e5.nil⟩, hBW⟩
    simp [results, Try.f35, go_sem, hc5]
  case stop =>
    rintro D c pre W hD _ hx hK
    exact hx.elim
end Go.Proofs.Ytpempgajejbdoaa
