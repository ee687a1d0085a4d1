/-
  The reference's Cut, for valid links and two parties.
-/
import Derived.Test.YtpempgajejbdoaaRcu
namespace Go.Proofs.Ytpempgajejbdoaa
open Go Go.RowKit
variable {F : Nat → Prop}
/-- the pairs of this list that are apart when l is cut or mended -/
def flt (s : List Lk) (l : Lk) (on : Bool) (r : List Lk) : List Lk := r.filter (flag s l on)
theorem flt_snoc (s : List Lk) (l : Lk) (on : Bool) (r : List Lk) (p : Lk) : flt s l on (r ++ [p]) = if flag s l on p = true then flt s l on r ++ [p] else flt s l on r := by
  unfold flt
  rw [List.filter_append]
  cases h : flag s l on p <;> simp [h]
theorem rows_len : (rows 24).length = 276 := by kernel_rfl
theorem flt_len {s : List Lk} {l : Lk} {on : Bool} {x y : Nat} (hx : x < 24) (hy : y ≤ 24) : (flt s l on (rows x ++ row x y)).length ≤ 600 := by
  have h1 : (rows x).length ≤ 24 * 24 := by
    have : ∀ x : Nat, x ≤ 24 → (rows x).length ≤ x * 24 := by
      intro x
      induction x with
      | zero => intro _; simp [rows]
      | succ k ih => intro hk; rw [rows_succ, List.length_append]; have := ih (by omega); have : (row k 24).length ≤ 24 := by unfold row; simp; omega
                     omega
    have := this x (by omega)
    omega
  have h2 : (row x y).length ≤ 24 := by unfold row; simp; omega
  unfold flt
  refine Nat.le_trans (List.length_filter_le _ _) ?_
  rw [List.length_append]
  omega
theorem rcu_next {w2 w4 w5 : World} {v v5 : Value} {s : List Lk} {x y : Int} {o : Obj} (h : OwnL w2.heap.size w4 v s) (hb : Below w2.heap.size w2 w4) (ho : OwnN 2 w5 v5 (s.length + 1) (lcs s ++ [.int .i64 x, .int .i64 y])) (hn : v5.ownBlock = v.ownBlock ∨ ∃ k, v5.ownBlock = some k ∧ (w4.alloc o).heap.size ≤ k) : OwnL w2.heap.size w5 v5 (s ++ [(x, y)]) :=
  h.next (z := (x, y)) hb.size ho (by
    rcases hn with hn | ⟨k, hn, hk⟩
    · exact .inl hn
    · exact .inr ⟨k, hn, by simp at hk; omega⟩)
theorem rcu_below {w2 w4 w5 : World} {v : Value} {s : List Lk} {o : Obj} (h : OwnL w2.heap.size w4 v s) (hb : Below w2.heap.size w2 w4) (hg : (w4.alloc o).grownBy w5 v.ownBlock) : Below w2.heap.size w2 w5 := by
  have hs := hb.size
  exact ⟨hg.os.trans hb.os, hg.tape.trans hb.tape, hg.output.trans hb.output, (by have h1 := hg.size; simp at h1; omega), fun k hk => ((hg.block k (by simp; omega) (fun e => by have := h.new k e.symm; omega)).trans (heap_alloc_old w4 _ (by omega))).trans (hb.block k hk)⟩
set_option maxRecDepth 20000 in
set_option maxHeartbeats 4000000 in
theorem rcut_yes (v : Value) (n : Nt) (a b : Int) (on : Bool) (w : World) (h : NV F w v n) (hok : okN n = true) (hen : endsB a b = true) : Calls Try.prog 19 #[v, .int .i64 a, .int .i64 b, .bool on] w (RetN F ⟨n.q, scn n.a (mkL a b) on⟩ 0 w) := by
  obtain ⟨pq, N, cq, pa, M, ca, rfl, HO, hq1, hq2, ha1, ha2⟩ := h.lo.op
  have HC : Hid (∀ w', Below w.heap.size w w' → Calls Try.prog 14 #[nval pq N cq pa M ca] w' (Ret (.int .i64 0) w')) := Lib.hid fun w' hb => by
    have := rcheck_any _ n w' (HO.out.below hb).nv
    rwa [chk_ok hok] at this
  have HBX := Lib.hid (box2 w (.slice pq N cq) (.slice pa M ca) (.slice none 0 0) (.slice none 0 0))
  have hcs : siteB a = true ∧ siteB b = true ∧ (a == b) = false := by
    unfold endsB at hen
    simp only [Bool.and_eq_true, decide_eq_true_eq] at hen
    exact ⟨hen.1.2, hen.2, by simp; exact hen.1.1⟩
  have HSA : Hid (∀ x, x = a ∨ x = b → ∀ W, Calls Try.prog 33 #[.int .i64 x] W (fun e w' => e = .returned (.bool true) ∧ w' = W)) := Lib.hid (fun x hx W => by
    have := site_any x W
    rcases hx with rfl | rfl
    · rwa [hcs.1] at this
    · rwa [hcs.2.1] at this)
  have hab := hcs.2.2
  have HI : Hid (∀ w' (x y : Nat), x < y → Below w.heap.size w w' → Calls Try.prog 39 #[nval pq N cq pa M ca, .int .i64 x, .int .i64 y] w' (Ret (.bool (decide (((x : Int), (y : Int)) ∈ n.a))) w')) := Lib.hid fun w' x y hxy hb => by
    have := isCut_any _ n (x : Int) (y : Int) w' (HO.out.below hb).nv
    rwa [show cutB n (x : Int) (y : Int) = decide (((x : Int), (y : Int)) ∈ n.a) by unfold cutB; rw [show mkL (x : Int) (y : Int) = ((x : Int), (y : Int)) by unfold mkL; congr 1 <;> omega]] at this
  clear h hok hen hcs
  go_enter Try.func19, Try.ntmps19
  go_wp2_with (first
    | (go_at_call 14; refine (HC.out _ HBX.out.below).mono ?_; rintro e w1 ⟨rfl, hb1⟩; obtain ⟨⟨c0, c1⟩, f0, r, hz, HB⟩ := HBX.out.later hb1; have f1 : w1.frozen? ⟨w.heap.size, 1, none⟩ = false := (bfrozen hb1 (by have := HBX.out.hz; omega) 1).trans (HBX.out.f 1); clear hb1)
    | (go_at_call 33; refine (HSA.out _ (by first | exact .inl rfl | exact .inr rfl) _).mono ?_; rintro e w2 ⟨rfl, rfl⟩))
  clear HC HBX HSA hab
  obtain ⟨i0, hi0, hz0, hsz0, hby0⟩ := inf55
  obtain ⟨mn, hmin⟩ : ∃ mn, min a b = mn := ⟨_, rfl⟩
  obtain ⟨mx, hmax⟩ : ∃ mx, max a b = mx := ⟨_, rfl⟩
  have HLM : Hid (mkL a b = (mn, mx)) := Lib.hid (by unfold mkL; rw [hmin, hmax])
  go_loopw [10, 11, 12, 13] (fun v i _ _ wr => ∃ x : Nat, x ≤ 24 ∧ i = .int .i64 x ∧ Hid (OwnL w2.heap.size wr v (flt n.a (mn, mx) on (rows x))) ∧ Hid (Below w2.heap.size w2 wr)) (fun _ i _ _ _ => 24 - (intOf i).toNat)
  case atStart => exact ⟨0, by omega, rfl, Lib.hid ⟨.inl ⟨rfl, rfl, rfl⟩, (fun k e => by cases e), fun _ => rfl⟩, Lib.hid (Below.refl _ _)⟩
  case round =>
    obtain ⟨x, hx, rfl, HOL, HBR⟩ := hrel
    by_cases hlt : x < 24
    · have hltI : (x : Int) < 24 := by omega
      have hw1 : IntKind.i64.wrap ((x : Int) + 1) = (x : Int) + 1 := by rw [IntKind.wrap_i64]; omega
      go_wp2_with fail
      go_loopw [10, 12, 13] (fun v j _ wq => ∃ y : Nat, x + 1 ≤ y ∧ y ≤ 24 ∧ j = .int .i64 y ∧ Hid (OwnL w2.heap.size wq v (flt n.a (mn, mx) on (rows x ++ row x y))) ∧ Hid (Below w2.heap.size w2 wq)) (fun _ j _ _ => 24 - (intOf j).toNat)
      case atStart => exact ⟨x + 1, Nat.le_refl _, by omega, by simp, by rw [row_zero, List.append_nil]; exact HOL, HBR⟩
      case round =>
        obtain ⟨y, hy1, hy2, rfl, HOY, HBY⟩ := hrel
        clear HOL HBR
        by_cases hyt : y < 24
        · have hytI : (y : Int) < 24 := by omega
          have hw2 : IntKind.i64.wrap ((y : Int) + 1) = (y : Int) + 1 := by rw [IntKind.wrap_i64]; omega
          have hsz : w.heap.size < w2.heap.size := by omega
          have k0 := (bcells HBY.out hsz 0).trans c0
          have k1 := (bcells HBY.out hsz 1).trans c1
          have HII := Lib.hid (HI.out _ x y (by omega) (HB.out.trans (HBY.out.mono HB.out.size)))
          have HFL : Hid (flag n.a (mn, mx) on ((x : Int), (y : Int)) = if (x : Int) = mn ∧ (y : Int) = mx then on else decide (((x : Int), (y : Int)) ∈ n.a)) := Lib.hid (by unfold flag; simp only [Prod.mk.injEq])
          generalize decide (((x : Int), (y : Int)) ∈ n.a) = dd at HII HFL
          obtain ⟨pv, cv, rfl⟩ := HOY.out.form
          have hlen := flt_len (s := n.a) (l := (mn, mx)) (on := on) (x := x) (y := y) hlt (by omega)
          have hnx : ∀ b : Bool, flag n.a (mn, mx) on ((x : Int), (y : Int)) = b → flt n.a (mn, mx) on (rows x ++ row x (y + 1)) = if b = true then flt n.a (mn, mx) on (rows x ++ row x y) ++ [((x : Int), (y : Int))] else flt n.a (mn, mx) on (rows x ++ row x y) := fun b hb => by
            rw [row_succ hy1, ← List.append_assoc, flt_snoc, hb]
          have HNX := Lib.hid hnx
          clear hnx
          have hcase : ((x : Int) = mn ∧ (y : Int) = mx) ∨ ((x : Int) == mn) = false ∨ ((x : Int) = mn ∧ ((y : Int) == mx) = false) := by
            by_cases g1 : (x : Int) = mn <;> by_cases g2 : (y : Int) = mx <;> simp [g1, g2]
          rcases hcase with ⟨g1, g2⟩ | g1 | ⟨g1, g2⟩
          · have hf : flag n.a (mn, mx) on ((x : Int), (y : Int)) = on := by rw [HFL.out, if_pos ⟨g1, g2⟩]
            have HF := Lib.hid hf
            clear hf HFL
            subst g1 g2
            cases on
            all_goals
              go_wp2_with (first
                | (go_at_call 39; refine HII.out.mono ?_; rintro e w4 ⟨rfl, hb4⟩; have HO4 := Lib.hid (HOY.out.below hb4); have HB4 := Lib.hid (HBY.out.trans (hb4.mono HBY.out.size)); clear hb4)
                | (at_builtin; refine wpList_ownN rfl (.tmp 60) (.tmp 64) 23 23 rfl 55 i0 _ 16 Try.underlying23 hi0 hz0 hsz0 (by decide) hby0 rfl _ _ _ rfl (HO4.out.own.alloc _) 1 [.int .i64 x, .int .i64 y] rfl ((two_vl ⟨rfl, rfl⟩).src Try.underlying23) (by unfold maxLen; omega) (by omega) ?_; rintro v5 w5 ho hg hn; have HO5 := Lib.hid (rcu_next HO4.out HB4.out ho hn); have HB5 := Lib.hid (rcu_below HO4.out HB4.out hg); clear ho hg hn))
              go_roundw
              case rel =>
                have hx2 := HNX.out _ HF.out
                first
                  | rw [if_pos rfl] at hx2
                  | rw [if_neg (by decide)] at hx2
                refine ⟨y + 1, by omega, by omega, by go_num, ?_, ?_⟩
                · rw [hx2]
                  first
                    | exact HO5
                    | exact HO4
                · first
                    | exact HB5
                    | exact HB4
              case measure => simp [intOf]; omega
          · have hf : flag n.a (mn, mx) on ((x : Int), (y : Int)) = dd := by rw [HFL.out, if_neg (fun h => by rw [h.1] at g1; simp at g1)]
            have HF := Lib.hid hf
            clear hf HFL
            cases dd
            all_goals
              go_wp2_with (first
                | (go_at_call 39; refine HII.out.mono ?_; rintro e w4 ⟨rfl, hb4⟩; have HO4 := Lib.hid (HOY.out.below hb4); have HB4 := Lib.hid (HBY.out.trans (hb4.mono HBY.out.size)); clear hb4)
                | (at_builtin; refine wpList_ownN rfl (.tmp 60) (.tmp 64) 23 23 rfl 55 i0 _ 16 Try.underlying23 hi0 hz0 hsz0 (by decide) hby0 rfl _ _ _ rfl (HO4.out.own.alloc _) 1 [.int .i64 x, .int .i64 y] rfl ((two_vl ⟨rfl, rfl⟩).src Try.underlying23) (by unfold maxLen; omega) (by omega) ?_; rintro v5 w5 ho hg hn; have HO5 := Lib.hid (rcu_next HO4.out HB4.out ho hn); have HB5 := Lib.hid (rcu_below HO4.out HB4.out hg); clear ho hg hn))
              go_roundw
              case rel =>
                have hx2 := HNX.out _ HF.out
                first
                  | rw [if_pos rfl] at hx2
                  | rw [if_neg (by decide)] at hx2
                refine ⟨y + 1, by omega, by omega, by go_num, ?_, ?_⟩
                · rw [hx2]
                  first
                    | exact HO5
                    | exact HO4
                · first
                    | exact HB5
                    | exact HB4
              case measure => simp [intOf]; omega
          · have hf : flag n.a (mn, mx) on ((x : Int), (y : Int)) = dd := by rw [HFL.out, if_neg (fun h => by rw [h.2] at g2; simp at g2)]
            have HF := Lib.hid hf
            clear hf HFL
            subst g1
            cases dd
            all_goals
              go_wp2_with (first
                | (go_at_call 39; refine HII.out.mono ?_; rintro e w4 ⟨rfl, hb4⟩; have HO4 := Lib.hid (HOY.out.below hb4); have HB4 := Lib.hid (HBY.out.trans (hb4.mono HBY.out.size)); clear hb4)
                | (at_builtin; refine wpList_ownN rfl (.tmp 60) (.tmp 64) 23 23 rfl 55 i0 _ 16 Try.underlying23 hi0 hz0 hsz0 (by decide) hby0 rfl _ _ _ rfl (HO4.out.own.alloc _) 1 [.int .i64 x, .int .i64 y] rfl ((two_vl ⟨rfl, rfl⟩).src Try.underlying23) (by unfold maxLen; omega) (by omega) ?_; rintro v5 w5 ho hg hn; have HO5 := Lib.hid (rcu_next HO4.out HB4.out ho hn); have HB5 := Lib.hid (rcu_below HO4.out HB4.out hg); clear ho hg hn))
              go_roundw
              case rel =>
                have hx2 := HNX.out _ HF.out
                first
                  | rw [if_pos rfl] at hx2
                  | rw [if_neg (by decide)] at hx2
                refine ⟨y + 1, by omega, by omega, by go_num, ?_, ?_⟩
                · rw [hx2]
                  first
                    | exact HO5
                    | exact HO4
                · first
                    | exact HB5
                    | exact HB4
              case measure => simp [intOf]; omega
        · have hyE : ¬ ((y : Int) < 24) := by omega
          obtain rfl : y = 24 := by omega
          go_wp2_with fail
          go_roundw
          case rel => exact ⟨x + 1, by omega, by go_num, by rw [rows_succ]; exact HOY, HBY⟩
          case measure => simp [intOf]; omega
    · have hxE : ¬ ((x : Int) < 24) := by omega
      obtain rfl : x = 24 := by omega
      have hsz : w.heap.size < w2.heap.size := by omega
      have hs2 := HBR.out.size
      obtain ⟨pv, cv, rfl⟩ := HOL.out.form
      have k0 := (bcells HBR.out hsz 0).trans c0
      have k1 := (bcells HBR.out hsz 1).trans c1
      have kf := (bfrozen HBR.out hsz 1).trans f1
      have k2 := Lib.hid ((HBR.out.block _ hz).trans r.out)
      have HA := Lib.hid ((HOL.out.setCell (k := w.heap.size) (o := 1) (by omega) (.slice pv (flt n.a (mn, mx) on (rows 24)).length cv)).av (fun z hz => lkB_64 (mem_rows.1 (List.mem_filter.1 hz).1)))
      have y0 : (wr.setCell ⟨w.heap.size, 1, none⟩ (.slice pv (flt n.a (mn, mx) on (rows 24)).length cv)).cell? ⟨w.heap.size, 0, none⟩ = some (.slice pq N cq) := by rw [World.cell?_setCell_other _ _ _ _ (by simp)]; exact k0
      have y1 : (wr.setCell ⟨w.heap.size, 1, none⟩ (.slice pv (flt n.a (mn, mx) on (rows 24)).length cv)).cell? ⟨w.heap.size, 1, none⟩ = some (.slice pv (flt n.a (mn, mx) on (rows 24)).length cv) := World.cell?_setCell_same' _ _ _ (by rw [k1]; rfl)
      have r5 := Lib.hid (row_set (k := w.heap.size) (o := 1) (v := .slice pv (flt n.a (mn, mx) on (rows 24)).length cv) k2.out (by omega))
      have HBX := Lib.hid (below_set (HB.out.trans (HBR.out.mono HB.out.size)) (Nat.le_refl _) (o := 1) (.slice pv (flt n.a (mn, mx) on (rows 24)).length cv))
      clear HOL HBR k2 r c0 c1 f0 f1
      go_wp2_with (refine nt_store rfl (.tmp 8) (.tmp 68) rfl (w.heap.size + 1) _ _ _ r5.out rfl rfl rfl ⟨rfl, rfl⟩ ?_; rintro w6 r6 hc6)
      exact bodyPost_ret (results_nt rfl _ _ _ _ _ _ rfl rfl r6.out) rfl (cut_fin rfl HO.out HBX.out (by rw [HLM.out]; exact HA.out.wid (fun b _ hb => by show w.heap.size + 2 ≤ b; have hb' : w2.heap.size ≤ b := hb; omega)) hc6)
theorem rcut_any (v : Value) (n : Nt) (a b : Int) (on : Bool) (w : World) (h : NV F w v n) : Calls Try.prog 19 #[v, .int .i64 a, .int .i64 b, .bool on] w (RetN F (cutN n a b on) (cutE n a b) w) := by
  by_cases hE : cutE n a b = 0
  · have hok : okN n = true := by
      cases h1 : okN n with
      | true => rfl
      | false => unfold cutE at hE; rw [if_neg (by simp [h1])] at hE; cases hE
    have hen : endsB a b = true := by
      cases h1 : endsB a b with
      | true => rfl
      | false => unfold cutE at hE; rw [if_pos hok, if_neg (by simp [h1])] at hE; cases hE
    have e : cutN n a b on = ⟨n.q, scn n.a (mkL a b) on⟩ := by unfold cutN; rw [if_pos ⟨hok, hen⟩, cutL_scn on (okN_a hok) (mk_ok hen)]
    rw [e, hE]
    exact rcut_yes v n a b on w h hok hen
  · have e : cutN n a b on = zero := by
      unfold cutN
      rw [if_neg]
      rintro ⟨h1, h2⟩
      exact hE (by unfold cutE; rw [if_pos h1, if_pos h2])
    rw [e]
    exact rcut_bad v n a b on w h hE
end Go.Proofs.Ytpempgajejbdoaa
