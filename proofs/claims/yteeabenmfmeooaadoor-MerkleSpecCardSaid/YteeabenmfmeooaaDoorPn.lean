/-
  Merkle: how long a path is.
-/
import Derived.Test.YteeabenmfmeooaaDoorSp
namespace Go.Proofs.YteeabenmfmeooaaDoor
open Go Go.RowKit Go.Shelf
attribute [local go_sem] Oper.semAt_some
theorem steps_at : ∀ (n i k a s : Nat), (stepsL i n)[k]? = some (a, s) → a ≤ i ∧ s ≤ n ∧ 1 < s ∧ (i < n → a < s) := by
  intro n
  induction n using Nat.strongRecOn with
  | ind n ih =>
    intro i k a s h
    by_cases h1 : 1 < n
    · rw [stepsL_cons h1] at h
      match k, h with
      | 0, h =>
        simp at h
        obtain ⟨rfl, rfl⟩ := h
        exact ⟨Nat.le_refl _, Nat.le_refl _, h1, fun h => h⟩
      | k + 1, h =>
        obtain ⟨e1, e2, e3, e4⟩ := ih ((n + 1) / 2) (by omega) (i / 2) k a s (by simpa using h)
        exact ⟨by omega, by omega, e3, fun hi => e4 (by omega)⟩
    · rw [stepsL_nil (by omega)] at h
      simp at h
theorem steps_mk (m n i : Nat) (w : World) : CallsIn Fence.wide m Tryd.prog 40 #[.int .i64 (n : Int), .int .i64 (i : Int)] w fun e w' => e = .returned (.func (.func 54) #[] #[.pointer (some ⟨w.heap.size + 1, 0, none⟩), .pointer (some ⟨w.heap.size, 0, none⟩)]) ∧ w' = (w.alloc (.cells #[.int .i64 (n : Int)] 3)).alloc (.cells #[.int .i64 (i : Int)] 3) := by
  refine callsIn_of_wp Tryd.func40 rfl trivial ?_ rfl
  simp only [Tryd.ntmps40, List.size_toArray, List.length_cons, List.length_nil, Nat.reduceAdd, Nat.reduceSub, Array.replicate_succ, Array.replicate_zero, List.push_toArray, List.append_toArray, List.nil_append, List.cons_append]
  gi_wp2
  go_ret
  exact ⟨rfl, rfl⟩
/-- how many of the first steps are not alone -/
def cntL (L : List (Nat × Nat)) : Nat := (L.filter fun z => !aloneB z.1 z.2).length
def plen (i n : Nat) : Nat := cntL (stepsL i n)
theorem cnt_next {L : List (Nat × Nat)} {k : Nat} {z : Nat × Nat} (h : L[k]? = some z) : cntL (L.take (k + 1)) = cntL (L.take k) + (if aloneB z.1 z.2 = true then 0 else 1) := by
  unfold cntL
  rw [List.take_add_one, h, List.filter_append, List.length_append]
  cases hz : aloneB z.1 z.2 <;> simp [hz]
theorem cnt_le (L : List (Nat × Nat)) (k : Nat) : cntL (L.take k) ≤ k := by
  unfold cntL
  exact Nat.le_trans (List.length_filter_le _ _) (by rw [List.length_take]; omega)
theorem steps_len : ∀ (n i : Nat), (stepsL i n).length ≤ n := by
  intro n
  induction n using Nat.strongRecOn with
  | ind n ih =>
    intro i
    by_cases h1 : 1 < n
    · rw [stepsL_cons h1, List.length_cons]
      have := ih ((n + 1) / 2) (by omega) (i / 2)
      omega
    · rw [stepsL_nil (by omega)]; simp
theorem pl_world (w : World) (n i : Int) : ∃ W0, (((w.alloc (.cells #[.int .i64 0] 3)).alloc (.cells #[.int .i64 n] 3)).alloc (.cells #[.int .i64 i] 3)) = W0 ∧ W0.heap.size = w.heap.size + 3 ∧ Below w.heap.size w W0 ∧
    W0.cell? ⟨w.heap.size, 0, none⟩ = some (.int .i64 0) ∧ W0.frozen? ⟨w.heap.size, 0, none⟩ = false ∧ W0.cell? ⟨w.heap.size + 1, 0, none⟩ = some (.int .i64 n) ∧ W0.cell? ⟨w.heap.size + 1 + 1, 0, none⟩ = some (.int .i64 i) := by
  refine ⟨_, rfl, by simp, (((Below.refl _ w).alloc (Nat.le_refl _) _).alloc (by simp) _).alloc (by simp; omega) _, ?_, ?_, ?_, ?_⟩
  all_goals go_simp
theorem keeps_below {B : Nat} {V V2 : World} (hb : Below V.heap.size V V2) : KeepsFrom B V V2 := ⟨hb.size, fun k _ _ hk _ => (hb.block k (Array.getElem?_eq_some_iff.1 hk).1).trans hk⟩
theorem own_cell {B : Nat} {W V : World} {row : Option Nat} {p : Addr} {v : Value} (h : W.cell? p = some v) (hg : W.grownBy V row) (hr : ∀ r, row = some r → B ≤ r ∧ ∃ o : Obj, W.heap[r]? = some o ∧ o.isCells = false) : V.cell? p = some v := cell_kept h hg (fun r e => (hr r e).2)
theorem own_free {B : Nat} {W V : World} {row : Option Nat} {p : Addr} {v : Value} (h : W.cell? p = some v) (hf : W.frozen? p = false) (hg : W.grownBy V row) (hr : ∀ r, row = some r → B ≤ r ∧ ∃ o : Obj, W.heap[r]? = some o ∧ o.isCells = false) : V.frozen? p = false := (frozen_kept h hg (fun r e => (hr r e).2)).trans hf
/-- between two rounds of pathLength -/
structure PI (w W0 : World) (i n k : Nat) (V : World) : Prop where
  c : V.cell? ⟨w.heap.size, 0, none⟩ = some (.int .i64 ((cntL ((stepsL i n).take k) : Nat) : Int))
  f : V.frozen? ⟨w.heap.size, 0, none⟩ = false
  b : Bxs (w.heap.size + 1 + 1) (w.heap.size + 1) i n V
  below : Below w.heap.size w V
  size : W0.heap.size ≤ V.heap.size
theorem PI.own {w W0 : World} (i n : Nat) (h : w.heap.size ≤ W0.heap.size) : OwnFrom W0.heap.size (PI w W0 i n) := fun _k A V row hs hg hr =>
  ⟨own_cell hs.c hg hr, own_free hs.c hs.f hg hr, ⟨own_cell hs.b.1 hg hr, own_cell hs.b.2 hg hr⟩, ownFrom_below (Nat.le_refl _) h () A V row hs.below hg hr, Nat.le_trans hs.size hg.size⟩
theorem PI.later {w W0 : World} {i n k : Nat} {V V2 : World} (h : PI w W0 i n k V) (hw : w.heap.size + 3 = W0.heap.size) (hb : Below V.heap.size V V2) : PI w W0 i n k V2 := by
  have hs := h.size
  exact ⟨(hb.cell (p := ⟨w.heap.size, 0, none⟩) (by simp only; omega)).trans h.c, (hb.frozen (p := ⟨w.heap.size, 0, none⟩) (by simp only; omega)).trans h.f, ⟨(hb.cell (p := ⟨w.heap.size + 1 + 1, 0, none⟩) (by simp only; omega)).trans h.b.1, (hb.cell (p := ⟨w.heap.size + 1, 0, none⟩) (by simp only; omega)).trans h.b.2⟩, h.below.trans (hb.mono h.below.size), Nat.le_trans hs hb.size⟩
theorem PI.up {w W0 : World} {i n k : Nat} {V : World} (h : PI w W0 i n k V) (_hw : w.heap.size + 3 = W0.heap.size) {c : Nat} (hc : cntL ((stepsL i n).take (k + 1)) = c) : PI w W0 i n (k + 1) (V.setCell ⟨w.heap.size, 0, none⟩ (.int .i64 (c : Int))) := by
  have hs := h.size
  refine ⟨by rw [hc]; exact World.cell?_setCell_same' _ _ _ (by rw [h.c]; rfl), by rw [World.frozen?_setCell]; exact h.f, ⟨?_, ?_⟩, below_set h.below (Nat.le_refl _) _, by simpa [World.setCell] using hs⟩
  · exact (World.cell?_of_block (w := V) (a := ⟨w.heap.size + 1 + 1, 0, none⟩) (Below.heap_setCell _ _ _ _ (by simp only; omega))).trans h.b.1
  · exact (World.cell?_of_block (w := V) (a := ⟨w.heap.size + 1, 0, none⟩) (Below.heap_setCell _ _ _ _ (by simp only; omega))).trans h.b.2
set_option maxRecDepth 100000 in
set_option maxHeartbeats 2000000 in
theorem plen_any (n i : Nat) (w : World) (hn : n ≤ 65536) (hi : i < 65536) : Calls Tryd.prog 47 #[.int .i64 (n : Int), .int .i64 (i : Int)] w (Ret (.int .i64 (plen i n : Int)) w) := by
  refine (callsIn_wide (n := 3)).1 ?_
  refine callsIn_of_wp_marks Tryd.func47 rfl trivial ?_ rfl
  simp only [Tryd.ntmps47, List.size_toArray, List.length_cons, List.length_nil, Nat.reduceAdd, Nat.reduceSub, Array.replicate_succ, Array.replicate_zero, List.push_toArray, List.append_toArray, List.nil_append, List.cons_append]
  gi_wp2_with (refine ⟨trivial, ?_⟩; gi_at_call 40; refine (steps_mk _ _ _ _).mono ?_; rintro e w' ⟨rfl, rfl⟩)
  obtain ⟨W0, hW0, hsz, hB0, k1, f1, k2, k3⟩ := pl_world w (n : Int) (i : Int)
  rw [hW0]
  have hP0 : PI w W0 i n 0 W0 := ⟨k1, f1, ⟨k3, k2⟩, hB0, Nat.le_refl _⟩
  have hw3 : w.heap.size + 3 = W0.heap.size := hsz.symm
  clear hW0 k1 f1 k2 k3 hB0
  refine wpIn_range (w := W0) rfl (by omega) (gf := 54) (lb := #[.pointer (some ⟨w.heap.size + 1 + 1, 0, none⟩), .pointer (some ⟨w.heap.size + 1, 0, none⟩)]) rfl trivial (enters_of Tryd.func54 (by kernel_rfl) rfl) (steps_in 2 (by omega) (w.heap.size + 1 + 1) (w.heap.size + 1) i n hn hi) (fun _ => rfl)
    (PI w W0 i n) (fun _ _ => False) (PI.own i n (by omega)) (fun c A V row hs _ _ => hs) (fun k V h => h.b) hP0
    (fun z a' V => ∃ Bx, W0.heap.size ≤ Bx ∧ V.cell? ⟨Bx, 0, none⟩ = some (.int .i64 (z.1 : Int)) ∧ V.cell? ⟨Bx, 1, none⟩ = some (.int .i64 (z.2 : Int)) ∧ a' = { tmps := #[.int .i64 (n : Int), .int .i64 (i : Int), undef, undef, .pointer (some ⟨w.heap.size, 0, none⟩), .pointer (some ⟨Bx, 0, none⟩), .int .i64 (n : Int), .int .i64 (i : Int), .func (.func 54) #[] #[.pointer (some ⟨w.heap.size + 1 + 1, 0, none⟩), .pointer (some ⟨w.heap.size + 1, 0, none⟩)], stv z.1 z.2, undef, undef, undef, undef, undef, undef], defers := [] })
    (fun z a' _ A V row hs hg hr => by obtain ⟨Bx, e1, e2, e3, e4⟩ := hs; exact ⟨Bx, e1, own_cell e2 hg hr, own_cell e3 hg hr, e4⟩)
    ?assign ?body ?done ?stop
  case assign =>
    rintro l k z V K hz hVs hP hK
    gi_wp2
    exact hK _ _ ((KeepsOthers.alloc _ _).from _) (hP.later hw3 (one_new _ _)) ⟨V.heap.size, by omega, by go_simp, by go_simp, rfl⟩
  case body =>
    rintro l k ⟨a, s⟩ a' V hVs hz hP ⟨Bx, hBx, c0, c1, rfl⟩
    obtain ⟨ha, _, _, _⟩ := steps_at n i k a s hz
    have ha2 : a < 65536 := by omega
    have hcnt := cnt_next hz
    have hle := cnt_le (stepsL i n) k
    have hkn := (List.getElem?_eq_some_iff.1 hz).1
    have hln := steps_len n i
    have HC := Lib.hid (alone_any a s V ha2)
    have HP := Lib.hid hP
    simp only at c0 c1
    cases hal : aloneB a s
    · rw [hal] at HC hcnt
      obtain ⟨c, hc⟩ : ∃ c, cntL ((stepsL i n).take k) = c := ⟨_, rfl⟩
      have k0 := hP.c
      have kf := hP.f
      rw [hc] at k0 hcnt hle
      have hw1 : IntKind.i64.wrap ((c : Int) + 1) = ((c + 1 : Nat) : Int) := by rw [IntKind.wrap_i64]; omega
      have hBr : w.heap.size < V.heap.size := by omega
      clear hal hP
      gi_wp2_with (refine ⟨trivial, ?_⟩; gi_at_call 41; refine (CallsIn.inRound l (callsIn_wide.2 HC.out)).mono ?_; rintro e V2 ⟨rfl, hb2⟩; have HP2 := Lib.hid (HP.out.later hw3 hb2); have k1 := (hb2.cell (p := ⟨w.heap.size, 0, none⟩) hBr).trans k0; have kf1 := (hb2.frozen (p := ⟨w.heap.size, 0, none⟩) hBr).trans kf)
      exact ⟨(keeps_below hb2).trans ((KeepsOthers.setCell _ _ _).from _), HP2.out.up hw3 (by rw [hcnt]; rfl)⟩
    · rw [hal] at HC hcnt
      clear hal hP
      gi_wp2_with (refine ⟨trivial, ?_⟩; gi_at_call 41; refine (CallsIn.inRound l (callsIn_wide.2 HC.out)).mono ?_; rintro e V2 ⟨rfl, hb2⟩; have HP2 := Lib.hid (HP.out.later hw3 hb2))
      refine ⟨keeps_below hb2, ?_⟩
      have h2 := HP2.out
      exact ⟨by rw [hcnt]; exact h2.c, h2.f, h2.b, h2.below, h2.size⟩
  case done =>
    rintro D V hD hP hK
    have k0 := hP.c
    have kf := hP.f
    rw [List.take_length] at k0
    have HP := Lib.hid hP
    clear hP
    gi_wp2
    have hK' := (KeepsOthers.setCell V ⟨w.heap.size, 0, none⟩ (.int .i64 ((cntL (stepsL i n) : Nat) : Int))).same D _ hK rfl
    refine ⟨by simp, .inl ⟨_, _, rfl, run_takeDeferred hK', ?_⟩⟩
    have hc5 := cell_kept (World.cell?_setCell_same' V ⟨w.heap.size, 0, none⟩ (.int .i64 ((cntL (stepsL i n) : Nat) : Int)) (by rw [k0]; rfl)) (grownBy_putObj' _ D (.deferred none)) (fun r e => by cases e; exact ⟨_, hK', rfl⟩)
    have hb5 : Below w.heap.size w (V.setCell ⟨w.heap.size, 0, none⟩ (.int .i64 ((cntL (stepsL i n) : Nat) : Int))) := below_set HP.out.below (Nat.le_refl _) _
    have hBW : Below w.heap.size w ((V.setCell ⟨w.heap.size, 0, none⟩ (.int .i64 ((cntL (stepsL i n) : Nat) : Int))).putObj D (.deferred none)) := hb5.trans (belowK_b (w := w) (Nat.le_refl _) _ D _ _ (by omega) hK' rfl rfl)
    refine ⟨.int .i64 ((cntL (stepsL i n) : Nat) : Int), ?_, rfl, hBW⟩
    simp [results, Tryd.f47, go_sem, hc5]
  case stop =>
    rintro D c V hD hx hK
    exact hx.elim
end Go.Proofs.YteeabenmfmeooaaDoor
