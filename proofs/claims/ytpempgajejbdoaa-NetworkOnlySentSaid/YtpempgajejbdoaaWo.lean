/-
  Links: without, the program's: a packet less.
-/
import Derived.Test.YtpempgajejbdoaaAdd
namespace Go.Proofs.Ytpempgajejbdoaa
open Go Go.RowKit
variable {F : Nat → Prop}
def wo (n : Nt) (k : Nat) : Nt := ⟨n.q.take k ++ n.q.drop (k + 1), n.a⟩
theorem results_n1 {fn : Func} {p : Tmp} (h : fn.results = #[.cell p 25]) (tmps : Array Value) (w : World) (g : Nat) (c0 c1 : Value) (hp : tmps.getD p undef = .pointer (some ⟨g, 0, none⟩)) (hg : w.heap[g]? = some (.cells #[c0, c1] 25 (0, 0))) :
    (results fn tmps).run Try.prog w = .ok (.agg #[c0, c1]) w := by
  have hp' : tmps[p]?.getD undef = .pointer (some ⟨g, 0, none⟩) := by simpa using hp
  simp [results, h, hp', asAddr, run_loadVar_row w g 25 25 #[c0, c1] (0, 0) _ hg Try.underlying25 rfl (by rw [info25]; rfl)]
structure Box2 (w W : World) (a b : Value) (c d : Value) : Prop where
  c0 : W.cell? ⟨w.heap.size, 0, none⟩ = some a
  c1 : W.cell? ⟨w.heap.size, 1, none⟩ = some b
  r : W.heap[w.heap.size + 1]? = some (.cells #[c, d] 25 (0, 0))
  f : ∀ o, W.frozen? ⟨w.heap.size, o, none⟩ = false
  hz : W.heap.size = w.heap.size + 2
  below : Below w.heap.size w W
theorem box2 (w : World) (a b c d : Value) : Box2 w ((w.alloc (.cells #[a, b] 25)).alloc (.cells #[c, d] 25)) a b c d := by
  have h2 : ((w.alloc (.cells #[a, b] 25)).alloc (.cells #[c, d] 25)).heap[w.heap.size + 1]? = some (.cells #[c, d] 25) := by
    have := heap_alloc_new (w.alloc (.cells #[a, b] 25)) (.cells #[c, d] 25)
    rwa [World.size_alloc] at this
  have h1 : ((w.alloc (.cells #[a, b] 25)).alloc (.cells #[c, d] 25)).heap[w.heap.size]? = some (.cells #[a, b] 25) :=
    (heap_alloc_old (w.alloc (.cells #[a, b] 25)) _ (by simp)).trans (heap_alloc_new w _)
  exact ⟨by unfold World.cell?; simp only [h1]; rfl, by unfold World.cell?; simp only [h1]; rfl, h2, fun o => by unfold World.frozen?; simp only [h1]; simp, by simp, two_below _ _ _⟩
theorem Box2.later {w W w1 : World} {a b c d : Value} (h : Box2 w W a b c d) (hb : Below W.heap.size W w1) :
    (w1.cell? ⟨w.heap.size, 0, none⟩ = some a ∧ w1.cell? ⟨w.heap.size, 1, none⟩ = some b) ∧ w1.frozen? ⟨w.heap.size, 0, none⟩ = false ∧
    Hid (w1.heap[w.heap.size + 1]? = some (.cells #[c, d] 25 (0, 0))) ∧ w.heap.size + 1 < w1.heap.size ∧ Hid (Below w.heap.size w w1) := by
  have hz := h.hz
  have h1 := hb.size
  exact ⟨⟨(bcells hb (by omega) _).trans h.c0, (bcells hb (by omega) _).trans h.c1⟩, (bfrozen hb (by omega) 0).trans (h.f 0), Lib.hid ((hb.block _ (by omega)).trans h.r), by omega, Lib.hid (h.below.trans (hb.mono h.below.size))⟩
theorem fresh_len {sz : Nat} {w w' : World} {p : Option Addr} {n : Nat} {v' : Value} {m : Nat} {zs : List Value} (h : Fresh sz w w' (.slice p n n) v' n m zs) : ∃ q c, v' = .slice q (n + m) c := by
  rcases h with ⟨rfl, rfl⟩ | ⟨g, cap, rfl, _⟩
  · exact ⟨_, _, rfl⟩
  · exact ⟨_, _, rfl⟩
theorem wo_fin {w W w' w5 : World} {n : Nt} {b o N cq M ca k c : Nat} {q' : Option Addr} {pa : Option Addr} {xs ys : List Value} {nm : Nat} (HO : Op (Lo F w) w n (some ⟨b, o, none⟩) N cq pa M ca) (hk : k < N) (hB : Below w.heap.size w W) (hz : w.heap.size + 1 < W.heap.size)
    (hx : QCells (Lo F w) W xs (n.q.take k)) (hxl : xs.length = k * 3) (hy : QCells (Lo F w) W ys (n.q.drop (k + 1))) (hm : nm = N - (k + 1)) (hfr : Fresh 3 W.drew w' (.slice (some ⟨b, o, none⟩) k k) (.slice q' (k + nm) c) k nm (xs ++ ys)) (hg : W.drew.grownBy w' none)
    (hc : Chg (w.heap.size + 1) (w'.setCell ⟨w.heap.size, 0, none⟩ (.slice q' (k + nm) c)) w5) : RetO F (wo n k) w (.returned (.agg #[.slice q' (k + nm) c, .slice pa M ca])) w5 := by
  have hbd := drew_bl W
  have hbw : Below W.drew.heap.size W.drew w' := grown_below (Below.refl _ _) (Nat.le_refl _) hg
  have hq := fresh_qv hfr (((HO.below hB).que.take k (by rw [HO.nq]; omega)).below hbd) (by rw [List.length_take, HO.nq]; omega) (by rw [List.length_drop, HO.nq, hm]) (hx.keep (.of_below hbd)) hxl (hy.keep (.of_below hbd)) hbw
  have hs3 : W.heap.size ≤ w'.heap.size := hbw.size
  have hk1 : KeepF (Nw (Lo F w) W.drew) w' w5 := (KeepF.set w' (nw_not (Nat.le_refl _) (by show _ < W.heap.size; omega)) _).trans (KeepF.of_chg hc (nw_not (by omega) (by show _ < W.heap.size; omega)))
  have hb1 : Below w.heap.size w w' := hB.trans ((hbd.trans hbw).mono hB.size)
  have hb5 : Below w.heap.size w w5 := Chg.below (below_set hb1 (Nat.le_refl _) _) (by have := hb1.size; simpa [World.setCell] using this) (by omega) hc
  exact ⟨_, rfl, ⟨_, _, rfl, (hq.keep hk1).wid (nw_wid (by show _ ≤ W.heap.size; omega)), ((HO.apa.below hb1).keep ((KeepF.set w' (lo_not (Nat.le_refl _)) _).trans (KeepF.of_chg hc (lo_not (by omega))))).wid lo_wid⟩, hb5⟩
set_option maxHeartbeats 2000000 in
theorem without_any (v : Value) (n : Nt) (k : Nat) (w : World) (h : NV F w v n) (hk : k < n.q.length) (hN : n.q.length ≤ 4096) : Calls Try.prog 42 #[v, .int .i64 (k : Int)] w (RetO F (wo n k) w) := by
  obtain ⟨pq, N, cq, pa, M, ca, rfl, HO, hq1, hq2, ha1, ha2⟩ := h.lo.op
  rw [HO.out.nq] at hk hN
  obtain ⟨b, o, _, _, _, _, _, _, rfl, hbl, _⟩ := HO.out.que.pkAt k (by rw [HO.out.nq]; exact hk)
  have HBX := Lib.hid (box2 w (.slice (some ⟨b, o, none⟩) N cq) (.slice pa M ca) (.slice none 0 0) (.slice none 0 0))
  have hB := HBX.out.below
  obtain ⟨xs, hvl, hqc⟩ := ((HO.out.below hB).que.take k (by rw [HO.out.nq]; omega)).vl
  rw [show (n.q.take k).length = k by rw [List.length_take, HO.out.nq]; omega] at hvl
  have HVL := Lib.hid hvl
  have HQC := Lib.hid hqc
  have c0 := HBX.out.c0
  have c1 := HBX.out.c1
  have f0 := HBX.out.f 0
  have HZ := Lib.hid HBX.out.hz
  have hzl : w.heap.size < ((w.alloc (.cells #[.slice (some ⟨b, o, none⟩) N cq, .slice pa M ca] 25)).alloc (.cells #[.slice none 0 0, .slice none 0 0] 25)).heap.size := by rw [HBX.out.hz]; omega
  have HR := Lib.hid HBX.out.r
  have HB := Lib.hid hB
  clear hvl hqc hB h
  obtain ⟨i0, hi0, hz0, hsz0, hby0⟩ := inf28
  have e0 : (0 : Int) ≤ (k : Int) := by omega
  have e1 : (k : Int) + 1 ≤ (N : Int) := by omega
  have e2 : ((k : Int) + 1).toNat = k + 1 := by omega
  have e3 : (k : Int) ≤ (cq : Int) := by omega
  have e4 : (0 : Int) ≤ (k : Int) + 1 := by omega
  have e5 : k ≤ cq := by omega
  have e6 : k + 1 ≤ N := by omega
  have e7 : (k : Int) ≤ (k : Int) + 1 := by omega
  have e8 : IntKind.i64.wrap ((k : Int) + 1) = (k : Int) + 1 := by
    rw [IntKind.wrap_i64]; omega
  generalize hW : ((w.alloc (.cells #[.slice (some ⟨b, o, none⟩) N cq, .slice pa M ca] 25)).alloc (.cells #[.slice none 0 0, .slice none 0 0] 25)) = W at *
  have HW := Lib.hid hW
  clear hW HBX
  by_cases hcap : cq = k + 1
  · have hNk : N = k + 1 := by omega
    subst hNk
    subst hcap
    obtain ⟨ys, hyl, hyc⟩ := ((HO.out.below HB.out).que.drop (k + 1) (by rw [HO.out.nq]; omega) (some ⟨b, o, none⟩) (.inr ⟨rfl, rfl⟩)).vl
    rw [show (n.q.drop (k + 1)).length = 0 by rw [List.length_drop, HO.out.nq]; omega] at hyl
    rw [Nat.sub_self] at hyl
    have HYL := Lib.hid hyl
    have HYC := Lib.hid hyc
    clear hyl hyc
    go_enter Try.func42, Try.ntmps42
    go_wp2_with fail
    rw [HW.out]
    go_region_law ((refine step_full (by rfl) _ _ _ _ (by rfl) 28 i0 _ 40 Try.underlying22 hi0 hz0 hsz0 hby0 (by rfl) (some ⟨b, o, none⟩) _ xs (by rfl) (HVL.out.below (drew_bl W)) (0) ys (by rfl) ((HYL.out.below (drew_bl W)).src Try.underlying22) (by unfold maxLen; omega) (by omega) ?_; intro v' w' hfr hgrow; obtain ⟨q', cap, rfl⟩ := fresh_len hfr; have HFR := Lib.hid hfr; have HGR := Lib.hid hgrow; have hbW := grown_below (drew_bl W) (Nat.le_refl _) hgrow; have HBW := Lib.hid hbW; have d0 := (bcells hbW (by omega) 0).trans c0; have d1 := (bcells hbW (by omega) 1).trans c1; have f1 := (bfrozen hbW (by omega) 0).trans f0; clear hbW hfr hgrow))
    all_goals
      have r4 := Lib.hid ((HBW.out.block _ (by have := HZ.out; omega)).trans HR.out)
      go_wp2_with (refine nt_store rfl (.tmp 4) (.tmp 17) rfl (w.heap.size + 1) _ _ _ (row_set r4.out (by omega)) rfl rfl rfl ⟨rfl, rfl⟩ ?_; rintro w5 r5 hc5)
      exact bodyPost_ret (results_n1 rfl _ _ _ _ _ rfl r5.out) rfl (wo_fin HO.out (by omega) HB.out (by have := HZ.out; omega) HQC.out (by obtain ⟨_, _, _, _, _, _, h, _⟩ := HVL.out; exact h) HYC.out (by omega) HFR.out HGR.out hc5)
  · obtain ⟨ys, hyl, hyc⟩ := ((HO.out.below HB.out).que.drop (k + 1) (by rw [HO.out.nq]; omega) (some ⟨b, o + (k + 1) * 3, none⟩) (.inl rfl)).vl
    rw [show (n.q.drop (k + 1)).length = N - (k + 1) by rw [List.length_drop, HO.out.nq]] at hyl
    have HYL := Lib.hid hyl
    have HYC := Lib.hid hyc
    clear hyl hyc
    have e9 : (k : Int) + 1 ≤ (cq : Int) := by omega
    have e10 : k + 1 ≤ cq := by omega
    have e11 : (N : Int) ≤ (cq : Int) := by omega
    go_enter Try.func42, Try.ntmps42
    go_wp2_with fail
    rw [HW.out]
    go_region_law ((refine step_full (by rfl) _ _ _ _ (by rfl) 28 i0 _ 40 Try.underlying22 hi0 hz0 hsz0 hby0 (by rfl) (some ⟨b, o, none⟩) _ xs (by rfl) (HVL.out.below (drew_bl W)) (N - (k + 1)) ys (by rfl) ((HYL.out.below (drew_bl W)).src Try.underlying22) (by unfold maxLen; omega) (by omega) ?_; intro v' w' hfr hgrow; obtain ⟨q', cap, rfl⟩ := fresh_len hfr; have HFR := Lib.hid hfr; have HGR := Lib.hid hgrow; have hbW := grown_below (drew_bl W) (Nat.le_refl _) hgrow; have HBW := Lib.hid hbW; have d0 := (bcells hbW (by omega) 0).trans c0; have d1 := (bcells hbW (by omega) 1).trans c1; have f1 := (bfrozen hbW (by omega) 0).trans f0; clear hbW hfr hgrow))
    all_goals
      have r4 := Lib.hid ((HBW.out.block _ (by have := HZ.out; omega)).trans HR.out)
      go_wp2_with (refine nt_store rfl (.tmp 4) (.tmp 17) rfl (w.heap.size + 1) _ _ _ (row_set r4.out (by omega)) rfl rfl rfl ⟨rfl, rfl⟩ ?_; rintro w5 r5 hc5)
      exact bodyPost_ret (results_n1 rfl _ _ _ _ _ rfl r5.out) rfl (wo_fin HO.out (by omega) HB.out (by have := HZ.out; omega) HQC.out (by obtain ⟨_, _, _, _, _, _, h, _⟩ := HVL.out; exact h) HYC.out (by omega) HFR.out HGR.out hc5)
end Go.Proofs.Ytpempgajejbdoaa
