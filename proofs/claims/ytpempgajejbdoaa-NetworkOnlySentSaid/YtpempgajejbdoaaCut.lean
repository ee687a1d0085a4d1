/-
  Links: Cut, the program's.
-/
import Derived.Test.YtpempgajejbdoaaPur
import Derived.Test.YtpempgajejbdoaaWo
import Derived.Test.YtpempgajejbdoaaRep
import Derived.Deep.RegionWith
namespace Go.Proofs.Ytpempgajejbdoaa
open Go Go.RowKit
variable {F : Nat → Prop}
theorem OwnL.av {m : Nat} {w : World} {v : Value} {s : List Lk} (h : OwnL m w v s) (h64 : ∀ z ∈ s, W64 z.1 ∧ W64 z.2) : AV (fun b => m ≤ b) w v s := by
  rcases h.own with ⟨rfl, hn, _⟩ | ⟨g, cap, rfl, ho⟩
  · obtain rfl : s = [] := List.eq_nil_of_length_eq_zero hn
    exact nil_AV w
  · refine ⟨g, cap, _, rfl, ho.le, ho.mx, (fun e => by cases e), .inr ⟨0, rfl, ⟨ho.lt, h.new g rfl⟩, fun j x hj => ?_⟩⟩
    have hc := lcs_at s j x hj
    have hm := h64 x (List.mem_of_getElem? hj)
    exact ⟨by rw [Nat.zero_add]; exact ho.cells _ _ hc.1, by rw [Nat.zero_add]; exact ho.cells _ _ hc.2, hm⟩
theorem lkB_64 {z : Lk} (h : lkB z = true) : W64 z.1 ∧ W64 z.2 := by
  unfold lkB siteB at h
  simp only [Bool.and_eq_true, decide_eq_true_eq] at h
  unfold W64
  omega
theorem OwnL.below {m : Nat} {w w' : World} {v : Value} {s : List Lk} (h : OwnL m w v s) (hb : Below w.heap.size w w') : OwnL m w' v s :=
  ⟨h.own.keep hb.size fun k hk => hb.block k (h.own.lt hk), h.new, h.nil⟩
theorem OwnL.some {m : Nat} {w : World} {v : Value} {s : List Lk} (h : OwnL m w v s) (hs : s ≠ []) : ∃ g c, v = .slice (.some ⟨g, 0, none⟩) s.length c ∧ OwnB 2 w g c s.length (lcs s) := by
  rcases h.own with ⟨_, hn, _⟩ | ⟨g, cap, rfl, ho⟩
  · exact absurd (List.eq_nil_of_length_eq_zero hn) hs
  · exact ⟨g, cap, rfl, ho⟩
theorem cut_fin {w wX wY : World} {n : Nt} {pq pa : Option Addr} {N cq M ca : Nat} {v ev : Value} {s : List Lk} (hev : ev = .int .i64 0) (HO : Op (Lo F w) w n pq N cq pa M ca) (hb : Below w.heap.size w wX) (hav : AV (fun b => w.heap.size + 2 ≤ b) wX v s) (hc : Chg (w.heap.size + 1) wX wY) :
    RetN F ⟨n.q, s⟩ 0 w (.returned (.tuple #[.agg #[.slice pq N cq, v], ev])) wY := by
  subst hev
  exact ⟨_, rfl, ⟨_, _, rfl, ((HO.que.below hb).keep (KeepF.of_chg hc (lo_not (by omega)))).wid lo_wid, (hav.keep (KeepF.of_chg hc (by simp))).wid (fun b _ hb => .inr (by omega))⟩, Chg.below hb hb.size (by omega) hc⟩
theorem cut_bad (v : Value) (n : Nt) (a b : Int) (on : Bool) (w : World) (h : NV F w v n) (hE : cutE n a b ≠ 0) : Calls Try.prog 18 #[v, .int .i64 a, .int .i64 b, .bool on] w (RetN F zero (cutE n a b) w) := by
  obtain ⟨pq, N, cq, pa, M, ca, rfl, HO, hq1, hq2, ha1, ha2⟩ := h.lo.op
  have HC : Hid (∀ w', Below w.heap.size w w' → Calls Try.prog 13 #[nval pq N cq pa M ca] w' (Ret (.int .i64 (chk n)) w')) := Lib.hid fun w' hb => check_any _ n w' (HO.out.below hb).nv
  have HEN := Lib.hid (fun W => ends_any a b W)
  have HBX := Lib.hid (box2 w (.slice pq N cq) (.slice pa M ca) (.slice none 0 0) (.slice none 0 0))
  clear h
  cases hok : okN n
  · have HE : Hid (cutE n a b = 60) := Lib.hid (by unfold cutE; rw [if_neg (by simp [hok])])
    rw [HE.out]
    rw [chk_no hok] at HC
    clear hok hE HE
    go_enter Try.func18, Try.ntmps18
    go_wp2_with (first
      | (go_at_call 13; refine (HC.out _ HBX.out.below).mono ?_; rintro e w1 ⟨rfl, hb1⟩; obtain ⟨⟨c0, c1⟩, f0, r, hz, HB⟩ := HBX.out.later hb1; clear hb1)
      | (refine nt_store rfl (.tmp 8) (.tmp 14) rfl (w.heap.size + 1) _ _ _ r.out rfl rfl rfl ⟨rfl, rfl⟩ ?_; rintro w4 r2 hc2))
    exact bodyPost_ret (results_nt rfl _ _ _ _ _ _ rfl rfl r2.out) rfl ⟨.agg #[.slice none 0 0, .slice none 0 0], rfl, zero_NV _, Chg.below HB.out HB.out.size (by omega) hc2⟩
  · have hen : endsB a b = false := by
      cases he : endsB a b with
      | false => rfl
      | true => exact absurd (by unfold cutE; rw [if_pos hok, if_pos he]) hE
    have HE : Hid (cutE n a b = 1) := Lib.hid (by unfold cutE; rw [if_pos hok, if_neg (by simp [hen])])
    rw [HE.out]
    rw [chk_ok hok] at HC
    rw [hen] at HEN
    clear hok hE HE hen
    go_enter Try.func18, Try.ntmps18
    go_wp2_with (first
      | (go_at_call 13; refine (HC.out _ HBX.out.below).mono ?_; rintro e w1 ⟨rfl, hb1⟩; obtain ⟨⟨c0, c1⟩, f0, r, hz, HB⟩ := HBX.out.later hb1; clear hb1)
      | (go_at_call 34; refine (HEN.out _).mono ?_; rintro e w2 ⟨rfl, rfl⟩)
      | (refine nt_store rfl (.tmp 8) (.tmp 20) rfl (w.heap.size + 1) _ _ _ r.out rfl rfl rfl ⟨rfl, rfl⟩ ?_; rintro w4 r2 hc2))
    exact bodyPost_ret (results_nt rfl _ _ _ _ _ _ rfl rfl r2.out) rfl ⟨.agg #[.slice none 0 0, .slice none 0 0], rfl, zero_NV _, Chg.below HB.out HB.out.size (by omega) hc2⟩
set_option maxHeartbeats 4000000 in
theorem cut_yes (v : Value) (n : Nt) (a b : Int) (on : Bool) (w : World) (h : NV F w v n) (hok : okN n = true) (hen : endsB a b = true) : Calls Try.prog 18 #[v, .int .i64 a, .int .i64 b, .bool on] w (RetN F ⟨n.q, cutL n.a (mkL a b) on⟩ 0 w) := by
  have hav := h.lo
  obtain ⟨pq, N, cq, pa, M, ca, rfl, HO, hq1, hq2, ha1, ha2⟩ := h.lo.op
  have HC : Hid (∀ w', Below w.heap.size w w' → Calls Try.prog 13 #[nval pq N cq pa M ca] w' (Ret (.int .i64 0) w')) := Lib.hid fun w' hb => by
    have := check_any _ n w' (HO.out.below hb).nv
    rwa [chk_ok hok] at this
  have HEN := Lib.hid (fun W => ends_any a b W)
  rw [hen] at HEN
  have HBX := Lib.hid (box2 w (.slice pq N cq) (.slice pa M ca) (.slice none 0 0) (.slice none 0 0))
  have HLK := Lib.hid (fun W => link_below a b W)
  have HM : Hid (∀ w', Below w.heap.size w w' → Calls Try.prog 35 #[.slice pa M ca, lkv (mkL a b)] w' (RetL (but n.a (mkL a b)) w')) := Lib.hid fun w' hb => mended_any _ n.a _ _ w' (HO.out.below hb).apa (by have := okA_len (okN_a hok); omega)
  have HOK := Lib.hid (And.intro (okN_a hok) (mk_ok hen))
  clear h hav hok hen
  go_enter Try.func18, Try.ntmps18
  go_wp2_with (first
    | (go_at_call 13; refine (HC.out _ HBX.out.below).mono ?_; rintro e w1 ⟨rfl, hb1⟩; obtain ⟨⟨c0, c1⟩, f0, r, hz, HB⟩ := HBX.out.later hb1; have f1 : w1.frozen? ⟨w.heap.size, 1, none⟩ = false := (bfrozen hb1 (by have := HBX.out.hz; omega) 1).trans (HBX.out.f 1); clear hb1)
    | (go_at_call 34; refine (HEN.out _).mono ?_; rintro e w2 ⟨rfl, rfl⟩))
  clear HC HEN HBX
  go_region_with (first
    | (go_at_call 36; refine (HLK.out _).mono ?_; rintro e w3 ⟨rfl, hb3⟩; have HB3 := Lib.hid ((drew_bel HB.out).trans (hb3.mono HB.out.size)); have hz3 : w.heap.size + 1 < w3.heap.size := Nat.lt_of_lt_of_le hz hb3.size; have r3 := Lib.hid ((hb3.block _ hz).trans r.out); have g0 := (bcells hb3 (show w.heap.size < w2.heap.size by omega) 0).trans c0; have g1 := (bcells hb3 (show w.heap.size < w2.heap.size by omega) 1).trans c1; have g2 := (bfrozen hb3 (show w.heap.size < w2.heap.size by omega) 1).trans f1; clear hb3)
    | (go_at_call 35; refine (HM.out _ HB3.out).mono ?_; rintro e w4 ⟨v4, rfl, ho4, hb4⟩; obtain ⟨p4, k4, rfl⟩ := ho4.form; have HO4 := Lib.hid ho4; have HB4 := Lib.hid (HB3.out.trans (hb4.mono HB3.out.size)); have HBB := Lib.hid hb4; have r4 := Lib.hid ((hb4.block _ hz3).trans r3.out); have x0 := (bcells hb4 (show w.heap.size < w3.heap.size by omega) 0).trans g0; have x1 := (bcells hb4 (show w.heap.size < w3.heap.size by omega) 1).trans g1; have x2 := (bfrozen hb4 (show w.heap.size < w3.heap.size by omega) 1).trans g2; clear ho4 hb4))
  all_goals
    have hz4 := HB4.out.size
    have hs34 : w3.heap.size ≤ w4.heap.size := HBB.out.size
    have HZ3 := Lib.hid hz3
    have hs35 : w3.heap.size ≤ (w4.setCell ⟨w.heap.size, 1, none⟩ (.slice p4 (but n.a (mkL a b)).length k4)).heap.size := by simpa [World.setCell] using hs34
    have hz5 : w.heap.size + 1 < w4.heap.size := Nat.lt_of_lt_of_le hz3 HBB.out.size
    have HO5 := Lib.hid (HO4.out.setCell (k := w.heap.size) (o := 1) (by omega) (.slice p4 (but n.a (mkL a b)).length k4))
    have y0 : (w4.setCell ⟨w.heap.size, 1, none⟩ (.slice p4 (but n.a (mkL a b)).length k4)).cell? ⟨w.heap.size, 0, none⟩ = some (.slice pq N cq) := by rw [World.cell?_setCell_other _ _ _ _ (by simp)]; exact x0
    have y1 : (w4.setCell ⟨w.heap.size, 1, none⟩ (.slice p4 (but n.a (mkL a b)).length k4)).cell? ⟨w.heap.size, 1, none⟩ = some (.slice p4 (but n.a (mkL a b)).length k4) := World.cell?_setCell_same' _ _ _ (by rw [x1]; rfl)
    have y2 : (w4.setCell ⟨w.heap.size, 1, none⟩ (.slice p4 (but n.a (mkL a b)).length k4)).frozen? ⟨w.heap.size, 1, none⟩ = false := by rw [World.frozen?_setCell]; exact x2
    have r5 := Lib.hid (row_set (k := w.heap.size) (o := 1) (v := .slice p4 (but n.a (mkL a b)).length k4) r4.out (by omega))
    have HB5 := Lib.hid (below_set HB4.out (Nat.le_refl _) (o := 1) (.slice p4 (but n.a (mkL a b)).length k4))
    have hz6 : w.heap.size + 1 < (w4.setCell ⟨w.heap.size, 1, none⟩ (.slice p4 (but n.a (mkL a b)).length k4)).heap.size := by simpa [World.setCell] using hz5
    clear x0 x1 x2 r4 HB4 HBB HO4 hz4 hz5 c0 c1 f0 f1 r g0 g1 g2 r3 HB
    generalize (w4.setCell ⟨w.heap.size, 1, none⟩ (.slice p4 (but n.a (mkL a b)).length k4)) = w5 at *
    cases on
    · go_wp2_with (refine nt_store rfl (.tmp 8) (.tmp 40) rfl (w.heap.size + 1) _ _ _ r5.out rfl rfl rfl ⟨rfl, rfl⟩ ?_; rintro w6 r6 hc6)
      exact bodyPost_ret (results_nt rfl _ _ _ _ _ _ rfl rfl r6.out) rfl (cut_fin rfl HO.out HB5.out ((HO5.out.av (fun z hz => lkB_64 (okA_mem HOK.out.1 (mem_but.1 hz).1))).wid (fun b _ hb => by have := HB3.out.size; omega)) hc6)
    · have hl5 := okA_len HOK.out.1
      have hbl : (but n.a (mkL a b)).length ≤ 576 := Nat.le_trans (by unfold but; exact List.length_filter_le _ _) hl5
      obtain ⟨i0, hi0, hz0, hsz0, hby0⟩ := inf55
      have hw0 : w.heap.size < w5.heap.size := by omega
      go_wp2_with fail
      go_region_law (first
        | (refine step_ownN (by rfl) (.tmp 30) (.tmp 34) _ _ (by rfl) 55 i0 _ 16 Try.underlying23 hi0 hz0 hsz0 (by decide) hby0 (by rfl) (.slice p4 (but n.a (mkL a b)).length k4) (.slice (some ⟨w6.heap.size, 0, none⟩) 1 1) (lcs (but n.a (mkL a b))) (by rfl) (HO6.out.own.alloc _) 1 [.int .i64 (mkL a b).1, .int .i64 (mkL a b).2] (by rfl) ((two_vl ⟨rfl, rfl⟩).src Try.underlying23) (by unfold maxLen; omega) (by omega) ?_; intro v7 w7 ho hg hn; have hz3z := HZ3.out; have HO7 := Lib.hid (HO6.out.next (by omega) ho (by rcases hn with hn | ⟨k, hn, hk⟩; exact .inl hn; exact .inr ⟨k, hn, by simp at hk; omega⟩)); have hbl7 : ∀ k, k < w6.heap.size → k < w3.heap.size → w7.heap[k]? = w6.heap[k]? := (fun k hk hk3 => (hg.block k (by simp; omega) (fun e => by have := HO6.out.new k e.symm; omega)).trans (heap_alloc_old w6 _ hk)); have t0 := (World.cell?_of_block (w := w6) (a := ⟨w.heap.size, 0, none⟩) (hbl7 w.heap.size (by omega) (by omega))).trans z0; have t1 := (World.cell?_of_block (w := w6) (a := ⟨w.heap.size, 1, none⟩) (hbl7 w.heap.size (by omega) (by omega))).trans z1; have t2 := (World.frozen?_of_block (w := w6) (a := ⟨w.heap.size, 1, none⟩) (hbl7 w.heap.size (by omega) (by omega))).trans z2; have r7 := Lib.hid ((hbl7 (w.heap.size + 1) (by omega) (by omega)).trans r6.out); have HB7 : Hid (Below w.heap.size w w7) := Lib.hid ⟨hg.os.trans HB6.out.os, hg.tape.trans HB6.out.tape, hg.output.trans HB6.out.output, (by have h1 := hg.size; have h2 := HB6.out.size; simp at h1; omega), fun k hk => (hbl7 k (by omega) (by omega)).trans (HB6.out.block k hk)⟩; obtain ⟨g, c7, rfl, hob⟩ := HO7.out.some (by simp); have HOB := Lib.hid hob; clear ho hg hn hob)
        | (go_simp; go_at_call 36; refine (HLK.out _).mono ?_; rintro e w6 ⟨rfl, hb6⟩; have hb56 := (drew_bl w5).trans hb6; have HB6 := Lib.hid (HB5.out.trans (hb56.mono HB5.out.size)); have HO6 := Lib.hid (HO5.out.below hb56); have hz66 : w.heap.size + 1 < w6.heap.size := Nat.lt_of_lt_of_le hz6 hb56.size; have hz60 : w.heap.size < w6.heap.size := (by omega); have hs36 : w3.heap.size ≤ w6.heap.size := (by have := hb56.size; omega); have r6 := Lib.hid ((hb56.block _ hz6).trans r5.out); have z0 := (bcells hb56 hw0 0).trans y0; have z1 := (bcells hb56 hw0 1).trans y1; have z2 := (bfrozen hb56 hw0 1).trans y2; clear hb6 hb56))
      all_goals
        have hg3 : w3.heap.size ≤ g := HO7.out.new g rfl
        have hz3' := HZ3.out
        have hl7 : (but n.a (mkL a b) ++ [mkL a b]).length = (but n.a (mkL a b)).length + 1 := by simp
        have hob := HOB.out
        rw [hl7] at hob
        have HOB8 := Lib.hid (hob.keep (w' := w7.setCell ⟨w.heap.size, 1, none⟩ (.slice (some ⟨g, 0, none⟩) ((but n.a (mkL a b)).length + 1) c7)) (by simp [World.setCell]) (by rw [Below.heap_setCell _ _ _ _ (by simp only; omega)]))
        have u0 : (w7.setCell ⟨w.heap.size, 1, none⟩ (.slice (some ⟨g, 0, none⟩) ((but n.a (mkL a b)).length + 1) c7)).cell? ⟨w.heap.size, 0, none⟩ = some (.slice pq N cq) := by rw [World.cell?_setCell_other _ _ _ _ (by simp)]; exact t0
        have u1 : (w7.setCell ⟨w.heap.size, 1, none⟩ (.slice (some ⟨g, 0, none⟩) ((but n.a (mkL a b)).length + 1) c7)).cell? ⟨w.heap.size, 1, none⟩ = some (.slice (some ⟨g, 0, none⟩) ((but n.a (mkL a b)).length + 1) c7) := World.cell?_setCell_same' _ _ _ (by rw [t1]; rfl)
        have r8 := Lib.hid (row_set (k := w.heap.size) (o := 1) (v := .slice (some ⟨g, 0, none⟩) ((but n.a (mkL a b)).length + 1) c7) r7.out (by omega))
        have HB8 := Lib.hid (below_set HB7.out (Nat.le_refl _) (o := 1) (.slice (some ⟨g, 0, none⟩) ((but n.a (mkL a b)).length + 1) c7))
        clear t0 t1 t2 r7 HB7 hob HOB HO7 z0 z1 z2 y0 y1 y2
        generalize (w7.setCell ⟨w.heap.size, 1, none⟩ (.slice (some ⟨g, 0, none⟩) ((but n.a (mkL a b)).length + 1) c7)) = w8 at *
        have hz8 : w.heap.size + 1 < w8.heap.size := by have := HOB8.out.lt; omega
        have hS := sort_any g c7 (but n.a (mkL a b) ++ [mkL a b]) w8 (by rw [hl7]; exact HOB8.out) (by rw [hl7]; omega)
        rw [hl7] at hS
        have HS := Lib.hid hS
        clear hS
        go_wp2_with (first
          | (go_at_call 37; refine HS.out.mono ?_; rintro e w9 ⟨rfl, hc9, hs9⟩; have s0 := (hc9.cell (show w.heap.size < w8.heap.size by omega) (by omega)).trans u0; have s1 := (hc9.cell (show w.heap.size < w8.heap.size by omega) (by omega)).trans u1; have r9 := Lib.hid ((hc9.block _ hz8 (by omega)).trans r8.out); have HS9 := Lib.hid hs9; have HC9 := Lib.hid hc9; clear hc9 hs9)
          | (refine nt_store rfl (.tmp 8) (.tmp 40) rfl (w.heap.size + 1) _ _ _ r9.out rfl rfl rfl ⟨rfl, rfl⟩ ?_; rintro w10 r10 hc10))
        have hb9 : Below w.heap.size w w9 := Chg.below HB8.out HB8.out.size (by omega) HC9.out
        have hcl : cutL n.a (mkL a b) true = srt (but n.a (mkL a b) ++ [mkL a b]) := rfl
        rw [hcl]
        have hav : AV (fun k => w.heap.size + 2 ≤ k) w9 (.slice (some ⟨g, 0, none⟩) ((but n.a (mkL a b)).length + 1) c7) (srt (but n.a (mkL a b) ++ [mkL a b])) :=
          ⟨g, c7, _, by rw [srt_len, hl7], by rw [srt_len, hl7]; exact HOB8.out.le, HOB8.out.mx, (fun e => by cases e), .inr ⟨0, rfl, ⟨Nat.lt_of_lt_of_le HOB8.out.lt HC9.out.size, by omega⟩, fun j z hz => by
            have h64 := lkB_64 (okA_mem (cutL_ok true HOK.out.1 HOK.out.2) (by rw [hcl]; exact List.mem_of_getElem? hz))
            rw [Nat.zero_add]
            exact ⟨(HS9.out j z hz).1, (HS9.out j z hz).2, h64⟩⟩⟩
        exact bodyPost_ret (results_nt rfl _ _ _ _ _ _ rfl rfl r10.out) rfl (cut_fin rfl HO.out hb9 hav hc10)
theorem cut_any (v : Value) (n : Nt) (a b : Int) (on : Bool) (w : World) (h : NV F w v n) : Calls Try.prog 18 #[v, .int .i64 a, .int .i64 b, .bool on] w (RetN F (cutN n a b on) (cutE n a b) w) := by
  by_cases hE : cutE n a b = 0
  · have hok : okN n = true := by
      cases h1 : okN n with
      | true => rfl
      | false => unfold cutE at hE; rw [if_neg (by simp [h1])] at hE; cases hE
    have hen : endsB a b = true := by
      cases h1 : endsB a b with
      | true => rfl
      | false => unfold cutE at hE; rw [if_pos hok, if_neg (by simp [h1])] at hE; cases hE
    have e : cutN n a b on = ⟨n.q, cutL n.a (mkL a b) on⟩ := by unfold cutN; rw [if_pos ⟨hok, hen⟩]
    rw [hE, e]
    exact cut_yes v n a b on w h hok hen
  · have e : cutN n a b on = zero := by
      unfold cutN
      refine if_neg fun hh => hE ?_
      unfold cutE
      rw [if_pos hh.1, if_pos hh.2]
    rw [e]
    exact cut_bad v n a b on w h hE
end Go.Proofs.Ytpempgajejbdoaa
