/-
  DiskReads's own body: it returns true.
-/
import Derived.Test.YtanmhjbeookfiaaPur
import Derived.Test.YtanmhjbeookfiaaLawWrite
namespace Go.Proofs.Ytanmhjbeookfiaa
open Go Go.RowKit
theorem BV.take {w : World} {p : Option Addr} {n k m : Nat} {l : List UInt8} (h : BV w (.slice p n k) l) (hm : m ≤ l.length) : BV w (.slice p m k) (l.take m) := by
  obtain ⟨b, cap, p', e, h1, h2, h3, h4⟩ := h
  cases e
  have hl : (l.take m).length = m := by rw [List.length_take]; omega
  refine ⟨b, k, p, by rw [hl], by omega, h2, h3, ?_⟩
  rcases h4 with rfl | ⟨o, e, hlt, hc⟩
  · exact .inl (by simp)
  · refine .inr ⟨o, e, hlt, fun j c hj => hc j c ?_⟩
    rw [List.getElem?_take] at hj
    split at hj
    · exact hj
    · cases hj
set_option maxRecDepth 100000 in
set_option maxHeartbeats 2000000 in
theorem lawReads_bad (v : Value) (d : D) (a o : Int) (bv cv : Value) (b c : List UInt8) (w : World) (h : DV w v d) (hb : BV w bv b) (hc : BV w cv c) (ha : W64 a) (hsane : ∀ w : World, Calls Try.prog 10 #[] w (Ret (.bool true) w))
    (hbad : 128 < b.length ∨ 128 < c.length ∨ readE d o ≠ 0 ∨ writeE d a b ≠ 0) :
    Calls Try.prog 7 #[v, .int .i64 a, .int .i64 o, bv, cv] w (Ret (.bool true) w) := by
  obtain ⟨ps, N, cs, pp, M, cp, rfl, HO, hs1, hs2, hp1, hp2⟩ := h.op
  obtain ⟨pb, cb, rfl, hb1, hb2⟩ := hb.shape
  obtain ⟨pc, cc, rfl, hc1, hc2⟩ := hc.shape
  unfold maxLen at hb2 hc2
  have HSN := Lib.hid hsane
  have HBV := Lib.hid hb
  have HA := Lib.hid ha
  have HBAD := Lib.hid hbad
  clear h hsane hb hc ha hbad
  have HF : Hid (∀ W, Below w.heap.size w W → Calls Try.prog 11 #[dval d ps N cs pp M cp] W (SomeB W)) := Lib.hid fun W hb => few_any _ d W (HO.out.below hb).dv
  have HR1 : Hid (∀ W, Below w.heap.size w W → Calls Try.prog 21 #[dval d ps N cs pp M cp, .int .i64 o] W (RetL (readL d o) (readE d o) W)) := Lib.hid fun W hb => read_any _ d o W (HO.out.below hb).dv
  have HW1 : Hid (∀ W, Below w.heap.size w W → Calls Try.prog 19 #[dval d ps N cs pp M cp, .int .i64 a, .slice pb b.length cb] W (RetD (writeD d a b) (writeE d a b) W)) := Lib.hid fun W hb => write_any _ d a _ b W (HO.out.below hb).dv (HBV.out.below hb) HA.out
  generalize writeE d a b = E1 at HW1 HBAD
  generalize writeD d a b = X at HW1
  generalize readE d o = E0 at HR1 HBAD
  generalize readL d o = Y0 at HR1
  generalize b.length = L at *
  generalize c.length = L2 at *
  go_enter Try.func7, Try.ntmps7
  go_wp2_with fail
  refine (HSN.out _).mono ?_
  rintro e w1 ⟨rfl, hbe1⟩
  obtain ⟨c0, c1, c2, c3⟩ := boxed (Nat.lt_of_lt_of_eq (Nat.lt_succ_self _) (by simp)) hbe1
  have hz1 : w.heap.size < w1.heap.size := by have := hbe1.size; simp at this; omega
  have HB1 := Lib.hid (one_later hbe1)
  clear hbe1
  go_wp2_with fail
  refine (HF.out _ HB1.out).mono ?_
  rintro e w2 ⟨bb, rfl, hbe2⟩
  obtain ⟨d0, d1, d2, d3⟩ := cells4L hbe2 hz1 ⟨c0, c1, c2, c3⟩
  have hz2 : w.heap.size < w2.heap.size := by have := hbe2.size; omega
  have HB2 := Lib.hid (HB1.out.trans (hbe2.mono HB1.out.size))
  clear hbe2 c0 c1 c2 c3 hz1 HB1
  cases bb
  · go_wp2_with fail
    go_ret
    exact ⟨rfl, HB2.out⟩
  by_cases hL : 128 < L
  · go_wp2_with fail
    go_ret
    exact ⟨rfl, HB2.out⟩
  have hL' : L ≤ 128 := by omega
  clear hL
  by_cases hL2 : 128 < L2
  · go_wp2_with fail
    go_ret
    exact ⟨rfl, HB2.out⟩
  have hL2' : L2 ≤ 128 := by omega
  clear hL2
  go_wp2_with fail
  refine (HR1.out _ HB2.out).mono ?_
  rintro e w3 ⟨v3, rfl, hbv3, hbe3⟩
  obtain ⟨p3, k3, rfl, _, _⟩ := hbv3.shape
  obtain ⟨e0, e1, e2, e3⟩ := cells4L hbe3 hz2 ⟨d0, d1, d2, d3⟩
  have hz3 : w.heap.size < w3.heap.size := by have := hbe3.size; omega
  have HB3 := Lib.hid (HB2.out.trans (hbe3.mono HB2.out.size))
  clear hbe3 d0 d1 d2 d3 hz2 HB2 hbv3 HR1
  go_wp2_with fail
  refine (HW1.out _ HB3.out).mono ?_
  rintro e w4 ⟨v4, rfl, hdv4, hbe4⟩
  obtain ⟨ps4, N4, cs4, pp4, M4, cp4, rfl, HO4, hs41, hs42, hp41, hp42⟩ := hdv4.op
  have HB4 := Lib.hid (HB3.out.trans (hbe4.mono HB3.out.size))
  clear hbe4 hdv4 HW1
  have hbd : E0 ≠ 0 ∨ E1 ≠ 0 := (HBAD.out.resolve_left (by omega)).resolve_left (by omega)
  by_cases q0 : E0 = 0
  · have q1 : (E1 == 0) = false := by simpa using hbd.resolve_left (fun h => h q0)
    subst q0
    go_wp2_with fail
    go_ret
    exact ⟨rfl, HB4.out.trans ((one_new _ _).mono HB4.out.size)⟩
  · have q1 : (E0 == 0) = false := by simpa using q0
    go_wp2_with fail
    go_ret
    exact ⟨rfl, HB4.out.trans ((one_new _ _).mono HB4.out.size)⟩
set_option maxRecDepth 100000 in
set_option maxHeartbeats 4000000 in
theorem lawReads_good (v : Value) (d : D) (a o : Int) (bv cv : Value) (b c : List UInt8) (w : World) (h : DV w v d) (hb : BV w bv b) (hc : BV w cv c) (ha : W64 a) (ho : W64 o) (hsane : ∀ w : World, Calls Try.prog 10 #[] w (Ret (.bool true) w))
    (hE0 : readE d o = 0) (hE1 : writeE d a b = 0) (hL' : b.length ≤ 128) (hL2' : c.length ≤ 128) :
    Calls Try.prog 7 #[v, .int .i64 a, .int .i64 o, bv, cv] w (Ret (.bool true) w) := by
  obtain ⟨ps, N, cs, pp, M, cp, rfl, HO, hs1, hs2, hp1, hp2⟩ := h.op
  obtain ⟨pb, cb, rfl, hb1, hb2⟩ := hb.shape
  obtain ⟨pc, cc, rfl, hc1, hc2⟩ := hc.shape
  unfold maxLen at hb2 hc2
  have hg0 := readE_iff.1 hE0
  have hga : goodA d a := ⟨(write_ok hE1).2.1, (write_ok hE1).2.2.1⟩
  have hgX0 := (good_write hE1 o).2 hg0
  have hgXa := (good_write hE1 a).2 hga
  have hXs : (writeD d a b).s.length = N := by rw [(write_ok hE1).1]; exact HO.out.n
  have hXa : readL (writeD d a b) a = fill b := by rw [read_write hE1 hga, if_pos rfl]
  have hXo : a ≠ o → readL (writeD d a b) o = readL d o := fun hne => by rw [read_write hE1 hg0, if_neg (fun e => hne e.symm)]
  have hXr := runs_write hE1
  have hW2 := writeE_next (l := c) hgX0 hL2'
  have HSN := Lib.hid hsane
  have HBV := Lib.hid hb
  have HCV := Lib.hid hc
  have HA := Lib.hid ha
  have HOA := Lib.hid ho
  have HXO := Lib.hid hXo
  have HXR := Lib.hid (And.intro hXr (And.intro hXs (And.intro hgX0 hW2)))
  have HFT := Lib.hid (fill_take hL')
  have HYR : Hid (writeE (writeD d a b) o c = 0 → runsB (writeD (writeD d a b) o c) = true ∧ (∀ k : Nat, k < N → goodA (writeD (writeD d a b) o c) k) ∧ (writeD (writeD d a b) o c).s.length = N) := Lib.hid fun h0 => by
    have hr := runs_write h0
    have hs : (writeD (writeD d a b) o c).s.length = N := by rw [(write_ok h0).1]; exact hXs
    exact ⟨hr, fun k hk => ⟨hr, by rw [hs, inB_of]; omega⟩, hs⟩
  have hFl := fill_len b
  have HF : Hid (∀ W, Below w.heap.size w W → Calls Try.prog 11 #[dval d ps N cs pp M cp] W (SomeB W)) := Lib.hid fun W hb => few_any _ d W (HO.out.below hb).dv
  have HR1 : Hid (∀ W, Below w.heap.size w W → Calls Try.prog 21 #[dval d ps N cs pp M cp, .int .i64 o] W (RetL (readL d o) 0 W)) := Lib.hid fun W hb => by
    have := read_any _ d o W (HO.out.below hb).dv
    rwa [hE0] at this
  have HW1 : Hid (∀ W, Below w.heap.size w W → Calls Try.prog 19 #[dval d ps N cs pp M cp, .int .i64 a, .slice pb b.length cb] W (RetD (writeD d a b) 0 W)) := Lib.hid fun W hb => by
    have := write_any _ d a _ b W (HO.out.below hb).dv (HBV.out.below hb) HA.out
    rwa [hE1] at this
  have HR2 : Hid (∀ (u : Value) W, DV W u (writeD d a b) → Calls Try.prog 21 #[u, .int .i64 o] W (RetL (readL (writeD d a b) o) 0 W)) := Lib.hid fun u W hb => by
    have := read_any _ _ o W hb
    rwa [readE_good hgX0] at this
  have HR3 : Hid (∀ (u : Value) W, DV W u (writeD d a b) → Calls Try.prog 21 #[u, .int .i64 a] W (RetL (fill b) 0 W)) := Lib.hid fun u W hb => by
    have := read_any _ _ a W hb
    rwa [readE_good hgXa, hXa] at this
  have HW2 : Hid (∀ (u : Value) W, DV W u (writeD d a b) → Below w.heap.size w W → Calls Try.prog 19 #[u, .int .i64 o, .slice pc c.length cc] W (RetD (writeD (writeD d a b) o c) (writeE (writeD d a b) o c) W)) := Lib.hid fun u W hb hB =>
    write_any _ _ o _ c W hb (HCV.out.below hB) HOA.out
  clear h hsane hb hc ha ho hE0 hE1 hg0 hga hgX0 hgXa hXs hXa hXo hXr hW2
  generalize writeD d a b = X at *
  generalize hE3 : writeE X o c = E3 at *
  generalize writeD X o c = Y at *
  have HE3 := Lib.hid HXR.out.2.2.2
  clear HXR hE3
  generalize readL d o = Y0 at *
  generalize readL X o = Y1 at *
  generalize fill b = FB at *
  generalize hLL : b.length = L at *
  generalize hLL2 : c.length = L2 at *
  go_enter Try.func7, Try.ntmps7
  go_wp2_with fail
  refine (HSN.out _).mono ?_
  rintro e w1 ⟨rfl, hbe1⟩
  obtain ⟨c0, c1, c2, c3⟩ := boxed (Nat.lt_of_lt_of_eq (Nat.lt_succ_self _) (by simp)) hbe1
  have hz1 : w.heap.size < w1.heap.size := by have := hbe1.size; simp at this; omega
  have HB1 := Lib.hid (one_later hbe1)
  clear hbe1
  go_wp2_with fail
  refine (HF.out _ HB1.out).mono ?_
  rintro e w2 ⟨bb, rfl, hbe2⟩
  obtain ⟨d0, d1, d2, d3⟩ := cells4L hbe2 hz1 ⟨c0, c1, c2, c3⟩
  have hz2 : w.heap.size < w2.heap.size := by have := hbe2.size; omega
  have HB2 := Lib.hid (HB1.out.trans (hbe2.mono HB1.out.size))
  clear hbe2 c0 c1 c2 c3 hz1 HB1
  cases bb
  · go_wp2_with fail
    go_ret
    exact ⟨rfl, HB2.out⟩
  go_wp2_with fail
  refine (HR1.out _ HB2.out).mono ?_
  rintro e w3 ⟨v3, rfl, hbv3, hbe3⟩
  obtain ⟨p3, k3, rfl, _, _⟩ := hbv3.shape
  obtain ⟨e0, e1, e2, e3⟩ := cells4L hbe3 hz2 ⟨d0, d1, d2, d3⟩
  have hz3 : w.heap.size < w3.heap.size := by have := hbe3.size; omega
  have HB3 := Lib.hid (HB2.out.trans (hbe3.mono HB2.out.size))
  have HV3 := Lib.hid hbv3
  clear hbe3 d0 d1 d2 d3 hz2 HB2 hbv3 HR1
  go_wp2_with fail
  refine (HW1.out _ HB3.out).mono ?_
  rintro e w4 ⟨v4, rfl, hdv4, hbe4⟩
  obtain ⟨ps4, N4, cs4, pp4, M4, cp4, rfl, HO4, hs41, hs42, hp41, hp42⟩ := hdv4.op
  obtain ⟨f0, f1, f2, f3⟩ := cells4L hbe4 hz3 ⟨e0, e1, e2, e3⟩
  have hz4 : w.heap.size < w4.heap.size := by have := hbe4.size; omega
  have HB4 := Lib.hid (HB3.out.trans (hbe4.mono HB3.out.size))
  have HV4 := Lib.hid (HV3.out.below hbe4)
  clear hbe4 hdv4 HW1 e0 e1 e2 e3 hz3 HB3 HV3
  go_wp2_with fail
  refine (HR2.out _ _ (HO4.out.below (one_new _ _)).dv).mono ?_
  rintro e w5 ⟨v5, rfl, hbv5, hbe5⟩
  obtain ⟨p5, k5, rfl, _, _⟩ := hbv5.shape
  obtain ⟨x0, x1, x2, x3⟩ := boxed (Nat.lt_of_lt_of_eq (Nat.lt_succ_self _) (by simp)) hbe5
  have HB45 := Lib.hid (one_later hbe5)
  obtain ⟨e0, e1, e2, e3⟩ := cells4L HB45.out hz4 ⟨f0, f1, f2, f3⟩
  have hz5 : w4.heap.size < w5.heap.size := by have := hbe5.size; simp at this; omega
  have HB5 := Lib.hid (HB4.out.trans (HB45.out.mono HB4.out.size))
  have HV5 := Lib.hid (HV4.out.below HB45.out)
  have HU5 := Lib.hid hbv5
  clear hbe5 hbv5 f0 f1 f2 f3 HV4
  go_wp2_with fail
  refine (HR3.out _ _ (HO4.out.below HB45.out).dv).mono ?_
  rintro e w6 ⟨v6, rfl, hbv6, hbe6⟩
  obtain ⟨p6, k6, rfl, hk6, hk6'⟩ := hbv6.shape
  unfold maxLen at hk6'
  obtain ⟨f0, f1, f2, f3⟩ := cells4L hbe6 (show w.heap.size < w5.heap.size by omega) ⟨e0, e1, e2, e3⟩
  obtain ⟨y0, y1, y2, y3⟩ := cells4L hbe6 hz5 ⟨x0, x1, x2, x3⟩
  have hz6 : w4.heap.size < w6.heap.size := by have := hbe6.size; omega
  have HB46 := Lib.hid (HB45.out.trans (hbe6.mono HB45.out.size))
  have HB6 := Lib.hid (HB5.out.trans (hbe6.mono HB5.out.size))
  have S3 : Hid (∀ x : Later w6, (convert 35 9 (.slice p3 Y0.length k3)).run Try.prog x.v = .ok (.string ⟨Y0.toArray⟩) x.v) := Lib.hid fun x => bv_string ((HV5.out.below hbe6).below x.b)
  have S5 : Hid (∀ x : Later w6, (convert 35 9 (.slice p5 Y1.length k5)).run Try.prog x.v = .ok (.string ⟨Y1.toArray⟩) x.v) := Lib.hid fun x => bv_string ((HU5.out.below hbe6).below x.b)
  have S6 : Hid (∀ x : Later w6, (convert 35 9 (.slice p6 L k6)).run Try.prog x.v = .ok (.string ⟨b.toArray⟩) x.v) := Lib.hid fun x => by
    have := bv_string ((hbv6.below x.b).take (m := L) (by omega))
    rwa [HFT.out] at this
  have SB : Hid (∀ x : Later w6, (convert 35 9 (.slice pb L cb)).run Try.prog x.v = .ok (.string ⟨b.toArray⟩) x.v) := Lib.hid fun x => bv_string (HBV.out.below (HB6.out.trans (x.b.mono HB6.out.size)))
  clear hbe6 hbv6 e0 e1 e2 e3 x0 x1 x2 x3 HV5 HU5 HB5 HB45 hz5 hz4
  have hLk : L ≤ k6 := by omega
  have hk6m : k6 ≤ 9223372036854775807 := by omega
  have hcase : ((a == o) = true ∧ (a != o) = false) ∨ ((a == o) = false ∧ (a != o) = true ∧ Y1 = Y0) := by
    by_cases hao : a = o
    · exact .inl ⟨by simpa using hao, by simpa using hao⟩
    · exact .inr ⟨by simpa using hao, by simpa using hao, HXO.out hao⟩
  clear HXO
  rcases hcase with ⟨qao, qan⟩ | ⟨qao, qan, rfl⟩
  all_goals
    go_wp2_with fail
    have s3 := S3.out
    have s5 := S5.out
    have s6 := S6.out
    have sb := SB.out
    refine wp_region_later (by kernel_rfl) (by kernel_rfl) ?_
    iterate 33 (go_big_quiet_step (fail))
    refine wpQuiet_nil ?_
    intro _ hw'
    obtain ⟨x, hx⟩ := hw'
    subst hx
    clear s3 s5 s6 sb S3 S5 S6 SB qao qan
    obtain ⟨e0, e1, e2, e3⟩ := cells4L x.b (show w.heap.size < w6.heap.size by have := HB4.out.size; omega) ⟨f0, f1, f2, f3⟩
    obtain ⟨x0, x1, x2, x3⟩ := cells4L x.b hz6 ⟨y0, y1, y2, y3⟩
    have HB7 := Lib.hid (HB6.out.trans (x.b.mono HB6.out.size))
    have HB47 := Lib.hid (HB46.out.trans (x.b.mono HB46.out.size))
    go_wp2_with fail
    refine (HW2.out _ _ (HO4.out.below HB47.out).dv HB7.out).mono ?_
    rintro e w7 ⟨v7, rfl, hdv7, hbe7⟩
    obtain ⟨ps7, N7, cs7, pp7, M7, cp7, rfl, HO7, hs71, hs72, hp71, hp72⟩ := hdv7.op
    obtain ⟨g0, g1, g2, g3⟩ := cells4L hbe7 (show w.heap.size < x.v.heap.size by have := x.b.size; have := HB4.out.size; omega) ⟨e0, e1, e2, e3⟩
    have hz7 : w.heap.size < w7.heap.size := by have := x.b.size; have := HB4.out.size; have := hbe7.size; omega
    have HB8 := Lib.hid (HB7.out.trans (hbe7.mono HB7.out.size))
    clear hbe7 hdv7 HW2 e0 e1 e2 e3 x0 x1 x2 x3 f0 f1 f2 f3 y0 y1 y2 y3 HB7 HB47 HB46 HB6
    rcases HE3.out with rfl | rfl
    rotate_left
    · go_wp2_with fail
      go_ret
      exact ⟨rfl, HB8.out.trans ((one_new _ _).mono HB8.out.size)⟩
    obtain ⟨hYr, hYg, hYs⟩ := HYR.out rfl
    have HSY : Hid (∀ (u : Value) W, DV W u Y → Calls Try.prog 23 #[u] W (RetD (syncD Y) (syncE Y) W)) := Lib.hid fun u W hb => sync_any _ _ W hb
    have HYR2 : Hid (∀ (u : Value) (k : Nat) W, k < N → DV W u Y → Calls Try.prog 21 #[u, .int .i64 (k : Int)] W (RetL (readL Y k) 0 W)) := Lib.hid fun u k W hk hb => by
      have := read_any _ _ (k : Int) W hb
      rwa [readE_good (hYg k hk)] at this
    have HS0 : Hid (syncE Y = 0 → chk (syncD Y) = 0 ∧ (syncD Y).p = [] ∧ ∀ (u : Value) (k : Nat) W, k < N → DV W u (syncD Y) → Calls Try.prog 21 #[u, .int .i64 (k : Int)] W (RetL (readL Y k) 0 W)) := Lib.hid fun h0 =>
      ⟨chk_runs (sync_runs hYr h0).1, (sync_runs hYr h0).2.1, fun u k W hk hb => by
        have h2 := read_sync h0 (hYg k hk)
        have := read_any _ _ (k : Int) W hb
        rwa [readE_good h2.1, h2.2] at this⟩
    have HS1 : Hid (syncE Y ≠ 0 → syncE Y = 40 ∧ (syncD Y).st = true) := Lib.hid fun h => sync_bad hYr h
    have HC0 : Hid (∀ (u : Value) W, DV W u (syncD Y) → Calls Try.prog 15 #[u] W (Ret (.int .i64 (chk (syncD Y))) W)) := Lib.hid fun u W hb => check_any _ _ W hb
    clear hYr hYg hYs HYR
    generalize syncE Y = E4 at *
    generalize syncD Y = Z at *
    go_wp2_with fail
    refine (HSY.out _ _ (HO7.out.below (one_new _ _)).dv).mono ?_
    rintro e w8 ⟨v8, rfl, hdv8, hbe8⟩
    obtain ⟨ps8, N8, cs8, pp8, M8, cp8, rfl, HO8, hs81, hs82, hp81, hp82⟩ := hdv8.op
    obtain ⟨e0, e1, e2, e3⟩ := cells4L (one_later hbe8) hz7 ⟨g0, g1, g2, g3⟩
    obtain ⟨x0, x1, x2, x3⟩ := boxed (Nat.lt_of_lt_of_eq (Nat.lt_succ_self _) (by simp)) hbe8
    have hz8 : w7.heap.size < w8.heap.size := by have := hbe8.size; simp at this; omega
    have HB78 := Lib.hid (one_later hbe8)
    have HB9 := Lib.hid (HB8.out.trans (HB78.out.mono HB8.out.size))
    clear hbe8 hdv8 HSY g0 g1 g2 g3 HB8
    by_cases h4 : E4 = 0
    rotate_left
    · obtain ⟨h5, h6⟩ := HS1.out h4
      subst h5
      go_wp2_with fail
      go_ret
      exact ⟨rfl, HB9.out.trans ((one_new _ _).mono HB9.out.size)⟩
    subst h4
    obtain ⟨hcz, hpz, HRZ0⟩ := HS0.out rfl
    have HRZ := Lib.hid HRZ0
    have hm8 := HO8.out.m
    rw [hpz] at hm8
    obtain rfl : M8 = 0 := hm8.symm
    rw [hcz] at HC0
    clear hcz hpz HRZ0 HS0 HS1 hm8
    obtain ⟨w9, hw9⟩ : ∃ w9, w9 = w8.alloc (.cells #[.slice ps8 N8 cs8, .slice pp8 0 cp8, .int .i64 Z.left, .bool Z.st] 25) := ⟨_, rfl⟩
    have HB89 : Hid (Below w8.heap.size w8 w9) := Lib.hid (by rw [hw9]; exact one_new _ _)
    obtain ⟨z0, z1, z2, z3⟩ : w9.cell? ⟨w8.heap.size, 0, none⟩ = some (.slice ps8 N8 cs8) ∧ w9.cell? ⟨w8.heap.size, 1, none⟩ = some (.slice pp8 0 cp8) ∧ w9.cell? ⟨w8.heap.size, 2, none⟩ = some (.int .i64 Z.left) ∧ w9.cell? ⟨w8.heap.size, 3, none⟩ = some (.bool Z.st) := by
      rw [hw9]
      refine ⟨?_, ?_, ?_, ?_⟩ <;> go_simp
    obtain ⟨g0, g1, g2, g3⟩ := cells4L HB89.out (show w.heap.size < w8.heap.size by omega) ⟨e0, e1, e2, e3⟩
    obtain ⟨y0, y1, y2, y3⟩ := cells4L HB89.out hz8 ⟨x0, x1, x2, x3⟩
    have hz9 : w8.heap.size < w9.heap.size := by rw [hw9]; simp
    have HB10 := Lib.hid (HB9.out.trans (HB89.out.mono HB9.out.size))
    have HB79 := Lib.hid (HB78.out.trans (HB89.out.mono HB78.out.size))
    have CD := Lib.hid g0
    have CY := Lib.hid (And.intro y0 (And.intro y1 (And.intro y2 y3)))
    have CZ := Lib.hid (And.intro z0 (And.intro z1 (And.intro z2 z3)))
    clear e0 e1 e2 e3 x0 x1 x2 x3
    go_wp2_with fail
    rw [← hw9]
    go_loopw [23] (fun i wr => ∃ j : Nat, j ≤ N ∧ i = .int .i64 j ∧ Hid (Below w9.heap.size w9 wr)) (fun i _ => N - (intOf i).toNat)
    case atStart => exact ⟨0, Nat.zero_le _, rfl, Lib.hid (Below.refl _ _)⟩
    case round =>
      clear g0 g1 g2 g3 y0 y1 y2 y3 z0 z1 z2 z3
      obtain ⟨j, hj, rfl, HB⟩ := hrel
      have g0 := (bcells HB.out (show w.heap.size < w9.heap.size by omega) 0).trans CD.out
      obtain ⟨y0, y1, y2, y3⟩ := cells4L HB.out (show w7.heap.size < w9.heap.size by omega) CY.out
      obtain ⟨z0, z1, z2, z3⟩ := cells4L HB.out hz9 CZ.out
      have hzr : w8.heap.size < wr.heap.size := by have := HB.out.size; omega
      by_cases hlt : j < N
      · have hlti : (j : Int) < (N : Int) := by omega
        go_wp2_with fail
        refine (HYR2.out _ j _ hlt (HO7.out.below (HB79.out.trans (HB.out.mono HB79.out.size))).dv).mono ?_
        rintro e wa ⟨va, rfl, hbva, hbea⟩
        obtain ⟨pa, ka, rfl, _, _⟩ := hbva.shape
        obtain ⟨a0, a1, a2, a3⟩ := cells4L hbea hzr ⟨z0, z1, z2, z3⟩
        go_wp2_with fail
        refine (HRZ.out _ j _ hlt (HO8.out.below (HB89.out.trans ((HB.out.trans (hbea.mono HB.out.size)).mono HB89.out.size))).dv).mono ?_
        rintro e wb ⟨vb, rfl, hbvb, hbeb⟩
        obtain ⟨pb', kb, rfl, _, _⟩ := hbvb.shape
        have s1 := bv_string (hbva.below hbeb)
        have s2 := bv_string hbvb
        have HBX := Lib.hid ((HB.out.trans (hbea.mono HB.out.size)).trans (hbeb.mono (HB.out.trans (hbea.mono HB.out.size)).size))
        clear hbva hbvb hbea hbeb a0 a1 a2 a3 g0 y0 y1 y2 y3 z0 z1 z2 z3
        go_wp2_with fail
        go_roundw
        case rel => exact ⟨j + 1, by omega, by go_num, HBX⟩
        case measure => simp [intOf]; omega
      · obtain rfl : j = N := by omega
        go_wp2_with fail
        refine (HC0.out _ _ (HO8.out.below (HB89.out.trans (HB.out.mono HB89.out.size))).dv).mono ?_
        rintro e wa ⟨rfl, hbea⟩
        have HBX := Lib.hid (HB10.out.trans ((HB.out.trans (hbea.mono HB.out.size)).mono HB10.out.size))
        clear hbea
        go_wp2_with fail
        go_ret
        exact ⟨rfl, HBX.out⟩
theorem lawReads (v : Value) (d : D) (a o : Int) (bv : Value) (b : List UInt8) (cv : Value) (c : List UInt8) (w : World) (h : DV w v d) (hb : BV w bv b) (hc : BV w cv c) (ha : W64 a) (ho : W64 o) (hsane : ∀ w : World, Calls Try.prog 10 #[] w (Ret (.bool true) w)) :
    Calls Try.prog 7 #[v, .int .i64 a, .int .i64 o, bv, cv] w (Ret (.bool true) w) := by
  by_cases hbad : 128 < b.length ∨ 128 < c.length ∨ readE d o ≠ 0 ∨ writeE d a b ≠ 0
  · exact lawReads_bad v d a o bv cv b c w h hb hc ha hsane hbad
  · simp only [not_or, Nat.not_lt] at hbad
    obtain ⟨h1, h2, h3, h4⟩ := hbad
    exact lawReads_good v d a o bv cv b c w h hb hc ha ho hsane (Classical.not_not.1 h3) (Classical.not_not.1 h4) h1 h2
end Go.Proofs.Ytanmhjbeookfiaa
