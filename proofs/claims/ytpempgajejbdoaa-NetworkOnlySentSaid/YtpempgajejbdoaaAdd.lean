/-
  Links: added, the program's: a packet more.
-/
import Derived.Test.YtpempgajejbdoaaQc
import Derived.Test.YtpempgajejbdoaaChk
import Derived.Deep.RegionHeld3
namespace Go.Proofs.Ytpempgajejbdoaa
open Go Go.RowKit
variable {F : Nat → Prop}
def addE (n : Nt) : Int := if n.q.length = 4096 then 2 else 0
def addN (n : Nt) (x : Pk) : Nt := if n.q.length = 4096 then zero else ⟨n.q ++ [x], n.a⟩
structure Box3 (w W : World) (a b x y z : Value) (c d : Value) : Prop where
  c0 : W.cell? ⟨w.heap.size, 0, none⟩ = some a
  c1 : W.cell? ⟨w.heap.size, 1, none⟩ = some b
  p0 : W.cell? ⟨w.heap.size + 1, 0, none⟩ = some x
  p1 : W.cell? ⟨w.heap.size + 1, 1, none⟩ = some y
  p2 : W.cell? ⟨w.heap.size + 1, 2, none⟩ = some z
  r : W.heap[w.heap.size + 2]? = some (.cells #[c, d] 25 (0, 0))
  f : ∀ o, W.frozen? ⟨w.heap.size, o, none⟩ = false
  f1 : ∀ o, W.frozen? ⟨w.heap.size + 1, o, none⟩ = false
  hz : W.heap.size = w.heap.size + 3
  below : Below w.heap.size w W
theorem box3 (w : World) (a b x y z c d : Value) : Box3 w (((w.alloc (.cells #[a, b] 25)).alloc (.cells #[x, y, z] 28)).alloc (.cells #[c, d] 25)) a b x y z c d := by
  have h3 : (((w.alloc (.cells #[a, b] 25)).alloc (.cells #[x, y, z] 28)).alloc (.cells #[c, d] 25)).heap[w.heap.size + 2]? = some (.cells #[c, d] 25) := by
    have := heap_alloc_new ((w.alloc (.cells #[a, b] 25)).alloc (.cells #[x, y, z] 28)) (.cells #[c, d] 25)
    rwa [World.size_alloc, World.size_alloc] at this
  have h2 : (((w.alloc (.cells #[a, b] 25)).alloc (.cells #[x, y, z] 28)).alloc (.cells #[c, d] 25)).heap[w.heap.size + 1]? = some (.cells #[x, y, z] 28) := by
    refine (heap_alloc_old ((w.alloc (.cells #[a, b] 25)).alloc (.cells #[x, y, z] 28)) _ (by simp)).trans ?_
    have := heap_alloc_new (w.alloc (.cells #[a, b] 25)) (.cells #[x, y, z] 28)
    rwa [World.size_alloc] at this
  have h1 : (((w.alloc (.cells #[a, b] 25)).alloc (.cells #[x, y, z] 28)).alloc (.cells #[c, d] 25)).heap[w.heap.size]? = some (.cells #[a, b] 25) :=
    (heap_alloc_old ((w.alloc (.cells #[a, b] 25)).alloc (.cells #[x, y, z] 28)) _ (by simp; omega)).trans ((heap_alloc_old (w.alloc (.cells #[a, b] 25)) _ (by simp)).trans (heap_alloc_new w _))
  exact ⟨by unfold World.cell?; simp only [h1]; rfl, by unfold World.cell?; simp only [h1]; rfl, by unfold World.cell?; simp only [h2]; rfl, by unfold World.cell?; simp only [h2]; rfl, by unfold World.cell?; simp only [h2]; rfl, h3, fun o => by unfold World.frozen?; simp only [h1]; simp, fun o => by unfold World.frozen?; simp only [h2]; simp, by simp, three_below _ _ _ _⟩
theorem fresh_new {sz : Nat} {w w' : World} {v v' : Value} {n m : Nat} {zs : List Value} (h : Fresh sz w w' v v' n m zs) (hm : m ≠ 0) : ∃ g cap, v' = .slice (some ⟨g, 0, none⟩) (n + m) cap ∧ w.heap.size ≤ g ∧ OwnB sz w' g cap (n + m) zs := by
  rcases h with ⟨h0, _⟩ | h
  · exact absurd h0 hm
  · exact h
theorem drew_alloc (W : World) (o : Obj) : Below W.heap.size W (W.drew.alloc o) := ⟨rfl, rfl, rfl, by simp, fun k hk => heap_alloc_old W.drew o hk⟩
theorem alloc_drew (W : World) (o : Obj) : Below W.heap.size W (W.alloc o).drew := ⟨rfl, rfl, rfl, by simp, fun k hk => heap_alloc_old W o hk⟩
theorem drew_bl (W : World) : Below W.heap.size W W.drew := ⟨rfl, rfl, rfl, Nat.le_refl _, fun _ _ => rfl⟩
theorem one_vl {w : World} {x y z : Value} {T : TypeId} (h : x.oneCell' = true ∧ y.oneCell' = true ∧ z.oneCell' = true) : VL 3 (w.alloc (.cells #[x, y, z] T)) (.slice (some ⟨w.heap.size, 0, none⟩) 1 1) 1 [x, y, z] :=
  ⟨_, 1, rfl, Nat.le_refl _, by unfold maxLen; omega, (fun e => by cases e), rfl, (fun u hu => by
    simp only [List.mem_cons, List.not_mem_nil, or_false] at hu
    rcases hu with rfl | rfl | rfl
    · exact h.1
    · exact h.2.1
    · exact h.2.2), .inr ⟨_, 0, rfl, by simp, fun j u hu => by
    rw [Nat.zero_add, World.cell?_alloc_new]
    simpa using hu⟩⟩
theorem bfrozen {w w' : World} (hb : Below w.heap.size w w') {b : Nat} (h : b < w.heap.size) (o : Nat) : w'.frozen? ⟨b, o, none⟩ = w.frozen? ⟨b, o, none⟩ := hb.frozen (p := ⟨b, o, none⟩) h
set_option maxHeartbeats 2000000 in
theorem added_any (v u : Value) (n : Nt) (x : Pk) (w : World) (h : NV F w v n) (hp : PKV F w u x) (hN : n.q.length ≤ 4096) : Calls Try.prog 29 #[v, u] w (RetN F (addN n x) (addE n) w) := by
  obtain ⟨pq, N, cq, pa, M, ca, rfl, HO, hq1, hq2, ha1, ha2⟩ := h.lo.op
  obtain ⟨p, L, c, rfl, HX, hl1, hl2⟩ := hp.lo.open
  obtain ⟨f, t, l⟩ := x
  rw [HO.out.nq] at hN
  have BX := box3 w (.slice pq N cq) (.slice pa M ca) (.int .i64 f) (.int .i64 t) (.slice p L c) (.slice none 0 0) (.slice none 0 0)
  have HP := Lib.hid hp
  have HBX := Lib.hid BX
  clear h hp BX
  by_cases h4 : N = 4096
  · subst h4
    have HE : Hid (addE n = 2 ∧ addN n (f, t, l) = zero) := Lib.hid ⟨by unfold addE; rw [if_pos HO.out.nq], by unfold addN; rw [if_pos HO.out.nq]⟩
    go_enter Try.func29, Try.ntmps29
    go_wp2_with (refine nt_store rfl (.tmp 4) (.tmp 12) rfl (w.heap.size + 2) _ _ _ HBX.out.r rfl rfl rfl ⟨rfl, rfl⟩ ?_; rintro w2 r2 hc2)
    refine bodyPost_ret (results_nt rfl _ _ _ _ _ _ rfl rfl r2.out) rfl ⟨.agg #[.slice none 0 0, .slice none 0 0], by rw [HE.out.1]; rfl, ?_, Chg.below HBX.out.below (by rw [HBX.out.hz]; omega) (by omega) hc2⟩
    rw [HE.out.2]
    exact zero_NV _
  · have h5 : ((N : Int) == 4096) = false := by simp; omega
    have h6 : ¬ ((N : Int) = 4096) := by omega
    go_enter Try.func29, Try.ntmps29
    go_wp2_with fail
    have hB := HBX.out.below
    obtain ⟨xs, hvl, hqc⟩ := ((HO.out.below hB).que.take N (Nat.le_of_eq HO.out.nq.symm)).vl
    rw [List.take_of_length_le (Nat.le_of_eq HO.out.nq)] at hvl hqc
    rw [HO.out.nq] at hvl
    have HVL := Lib.hid hvl
    have HQC := Lib.hid hqc
    have HQ := Lib.hid ((HO.out.below hB).que.take N (Nat.le_of_eq HO.out.nq.symm))
    have c0 := HBX.out.c0
    have c1 := HBX.out.c1
    have p0 := HBX.out.p0
    have p1 := HBX.out.p1
    have p2 := HBX.out.p2
    have f0 := HBX.out.f
    have HZ := Lib.hid HBX.out.hz
    have hzl : w.heap.size < (((w.alloc (.cells #[.slice pq N cq, .slice pa M ca] 25)).alloc (.cells #[.int .i64 f, .int .i64 t, .slice p L c] 28)).alloc (.cells #[.slice none 0 0, .slice none 0 0] 25)).heap.size := by rw [HBX.out.hz]; omega
    have HR := Lib.hid HBX.out.r
    have HB := Lib.hid hB
    clear hvl hqc hB HBX
    generalize (((w.alloc (.cells #[.slice pq N cq, .slice pa M ca] 25)).alloc (.cells #[.int .i64 f, .int .i64 t, .slice p L c] 28)).alloc (.cells #[.slice none 0 0, .slice none 0 0] 25)) = W at *
    obtain ⟨i0, hi0, hz0, hsz0, hby0⟩ := inf28
    go_region_law ((refine step_full (by rfl) _ _ _ _ (by rfl) 28 i0 _ 40 Try.underlying22 hi0 hz0 hsz0 hby0 (by rfl) pq _ xs (by rfl) (HVL.out.below (alloc_drew W _)) 1 [.int .i64 f, .int .i64 t, .slice p L c] (by rfl) (((one_vl ⟨rfl, rfl, rfl⟩).below (drew_bl _)).src Try.underlying22) (by unfold maxLen; omega) (by omega) ?_; intro v' w' hfr hgrow; obtain ⟨g, cap, rfl, hg, ho⟩ := fresh_new hfr (by decide); have HFR := Lib.hid hfr; have HGR := Lib.hid (grown_below (Below.refl _ _) (Nat.le_refl _) hgrow); have hbW := grown_below (alloc_drew W _) (by simp) hgrow; have HBW := Lib.hid hbW; have d0 := (bcells hbW (by omega) 0).trans c0; have d1 := (bcells hbW (by omega) 1).trans c1; have f1 := (bfrozen hbW (by omega) 0).trans (f0 0); clear hbW hfr hgrow ho))
    all_goals
      have r4 := Lib.hid ((HBW.out.block _ (by have := HZ.out; omega)).trans HR.out)
      go_wp2_with (refine nt_store rfl (.tmp 4) (.tmp 22) rfl (w.heap.size + 1 + 1) _ _ _ (row_set r4.out (by omega)) rfl rfl rfl ⟨rfl, rfl⟩ ?_; rintro w5 r5 hc5)
      have hbd := alloc_drew W (.cells #[.int .i64 f, .int .i64 t, .slice p L c] 28)
      have hgd : ((W.alloc (.cells #[.int .i64 f, .int .i64 t, .slice p L c] 28)).drew).heap.size = w.heap.size + 4 := by have := HZ.out; simp; omega
      have hpk := HX.out.2
      have hbw : Below ((W.alloc (.cells #[.int .i64 f, .int .i64 t, .slice p L c] 28)).drew).heap.size ((W.alloc (.cells #[.int .i64 f, .int .i64 t, .slice p L c] 28)).drew) w' := HGR.out
      have hqv := fresh_qv HFR.out (HQ.out.below hbd) (by rw [List.take_of_length_le (Nat.le_of_eq HO.out.nq)]; exact HO.out.nq) rfl (by rw [List.take_of_length_le (Nat.le_of_eq HO.out.nq)]; exact HQC.out.keep (.of_below hbd)) (by obtain ⟨_, _, _, _, _, _, h, _⟩ := HVL.out; exact h) ((QCells.one (x := (f, t, l)) (by obtain ⟨_, e, h1, h2, h3⟩ := hpk; exact h1) (by obtain ⟨_, e, h1, h2, h3⟩ := hpk; exact h2) (by obtain ⟨_, e, h1, h2, h3⟩ := hpk; cases e; exact h3)).keep (.of_below (HB.out.trans (hbd.mono HB.out.size)))) hbw
      rw [List.take_of_length_le (Nat.le_of_eq HO.out.nq)] at hqv
      have hk1 : KeepF (Nw (Lo F w) ((W.alloc (.cells #[.int .i64 f, .int .i64 t, .slice p L c] 28)).drew)) w' w5 := (KeepF.set w' (nw_not (by omega) (by omega)) _).trans (KeepF.of_chg hc5 (nw_not (by omega) (by omega)))
      have hb1 : Below w.heap.size w w' := HB.out.trans (HBW.out.mono HB.out.size)
      have hb5 : Below w.heap.size w w5 := Chg.below (below_set hb1 (Nat.le_refl _) _) (by have := hb1.size; simpa [World.setCell] using this) (by omega) hc5
      have hE : addE n = 0 := by unfold addE; rw [if_neg (by rw [HO.out.nq]; exact h4)]
      have hN' : addN n (f, t, l) = ⟨n.q ++ [(f, t, l)], n.a⟩ := by unfold addN; rw [if_neg (by rw [HO.out.nq]; exact h4)]
      refine bodyPost_ret (results_nt rfl _ _ _ _ _ _ rfl rfl r5.out) rfl ⟨_, by rw [hE]; rfl, ?_, hb5⟩
      rw [hN']
      exact ⟨_, _, rfl, (hqv.keep hk1).wid (nw_wid (by omega)), ((HO.out.apa.below hb1).keep ((KeepF.set w' (lo_not (Nat.le_refl _)) _).trans (KeepF.of_chg hc5 (lo_not (by omega))))).wid lo_wid⟩
end Go.Proofs.Ytpempgajejbdoaa
