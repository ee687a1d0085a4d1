/-
  Disks: Read, given what current returns.
-/
import Derived.Test.YtanmhjbeookfiaaCur
namespace Go.Proofs.Ytanmhjbeookfiaa
open Go Go.RowKit
theorem runs_cases {d : D} {a : Int} (hn : ¬ goodA d a) : runsB d = false ∨ (runsB d = true ∧ inB d.s.length a = false) := by
  unfold goodA at hn
  cases h1 : runsB d
  · exact .inl rfl
  · cases h2 : inB d.s.length a
    · exact .inr ⟨rfl, rfl⟩
    · exact absurd ⟨h1, h2⟩ hn
set_option maxHeartbeats 1000000 in
theorem read_bad (v : Value) (d : D) (a : Int) (w : World) (h : DV w v d) (hn : ¬ goodA d a) : Calls Try.prog 21 #[v, .int .i64 a] w (RetL [] 40 w) := by
  rcases runs_cases hn with hr | ⟨hr, hi⟩
  · refine (read_no v d a w h hr).mono ?_
    rintro e w' ⟨rfl, hb⟩
    exact ⟨_, rfl, nil_BV _, hb⟩
  · obtain ⟨ps, N, cs, pp, M, cp, rfl, HO, hs1, hs2, hp1, hp2⟩ := h.op
    clear h
    have HR : Hid (∀ w', Below w.heap.size w w' → Calls Try.prog 31 #[dval d ps N cs pp M cp] w' (Ret (.bool true) w')) := Lib.hid fun w' hb => by
      have := runs_any _ d w' (HO.out.below hb).dv
      rwa [hr] at this
    have HI : Hid (∀ w', Below w.heap.size w w' → Calls Try.prog 32 #[dval d ps N cs pp M cp, .int .i64 a] w' (Ret (.bool false) w')) := Lib.hid fun w' hb => by
      have := within_any _ d a w' (HO.out.below hb).dv
      rwa [hi] at this
    clear hr hi hn
    go_enter Try.func21, Try.ntmps21
    go_wp2_with (first
      | (go_at_call 31; refine (HR.out _ (one_new _ _)).mono ?_; rintro e w1 ⟨rfl, hb1⟩; obtain ⟨c0, c1, c2, c3⟩ := boxed (Nat.lt_of_lt_of_eq (Nat.lt_succ_self _) (by simp)) hb1; have HB := Lib.hid (one_later hb1); clear hb1)
      | (go_at_call 32; refine (HI.out _ HB.out).mono ?_; rintro e w2 ⟨rfl, hb2⟩; have HB2 := Lib.hid (HB.out.trans (hb2.mono HB.out.size)); clear hb2))
    go_ret2
    exact ⟨_, rfl, nil_BV _, HB2.out⟩
set_option maxHeartbeats 1000000 in
theorem read_yes (v : Value) (d : D) (a : Int) (w : World) (h : DV w v d) (hn : goodA d a)
    (hcur : ∀ (w' : World) (ps pp : Option Addr) (N cs M cp : Nat), Op w' d ps N cs pp M cp → N ≤ cs → cs ≤ 9223372036854775807 → M ≤ cp → cp ≤ 9223372036854775807 → Calls Try.prog 35 #[dval d ps N cs pp M cp, .int .i64 a] w' (RetV1 (cur d a.toNat d.p.length) w')) :
    Calls Try.prog 21 #[v, .int .i64 a] w (RetL (fill (cur d a.toNat d.p.length)) 0 w) := by
  obtain ⟨hr, hi⟩ := hn
  obtain ⟨ps, N, cs, pp, M, cp, rfl, HO, hs1, hs2, hp1, hp2⟩ := h.op
  clear h
  have HR : Hid (∀ w', Below w.heap.size w w' → Calls Try.prog 31 #[dval d ps N cs pp M cp] w' (Ret (.bool true) w')) := Lib.hid fun w' hb => by
    have := runs_any _ d w' (HO.out.below hb).dv
    rwa [hr] at this
  have HI : Hid (∀ w', Below w.heap.size w w' → Calls Try.prog 32 #[dval d ps N cs pp M cp, .int .i64 a] w' (Ret (.bool true) w')) := Lib.hid fun w' hb => by
    have := within_any _ d a w' (HO.out.below hb).dv
    rwa [hi] at this
  have HU : Hid (∀ w', Below w.heap.size w w' → Calls Try.prog 35 #[dval d ps N cs pp M cp, .int .i64 a] w' (RetV1 (cur d a.toNat d.p.length) w')) := Lib.hid fun w' hb => hcur w' _ _ _ _ _ _ (HO.out.below hb) hs1 hs2 hp1 hp2
  generalize cur d a.toNat d.p.length = l at *
  clear hr hi hcur
  go_enter Try.func21, Try.ntmps21
  go_wp2_with (first
    | (go_at_call 31; refine (HR.out _ (one_new _ _)).mono ?_; rintro e w1 ⟨rfl, hb1⟩; obtain ⟨c0, c1, c2, c3⟩ := boxed (Nat.lt_of_lt_of_eq (Nat.lt_succ_self _) (by simp)) hb1; have HB := Lib.hid (one_later hb1); have hz1 : w.heap.size < w1.heap.size := (by have := hb1.size; simp at this; omega); clear hb1)
    | (go_at_call 32; refine (HI.out _ HB.out).mono ?_; rintro e w2 ⟨rfl, hb2⟩; have HB2 := Lib.hid (HB.out.trans (hb2.mono HB.out.size)); have d0 := (bcells hb2 hz1 0).trans c0; have d1 := (bcells hb2 hz1 1).trans c1; have d2 := (bcells hb2 hz1 2).trans c2; have d3 := (bcells hb2 hz1 3).trans c3; clear hb2 c0 c1 c2 c3)
    | (go_at_call 35; refine (HU.out _ HB2.out).mono ?_; rintro e w3 ⟨u, rfl, hu, hb3⟩; have HB3 := Lib.hid (HB2.out.trans (hb3.mono HB2.out.size)); have HUV := Lib.hid hu; clear hb3 hu)
    | (go_at_call 34; refine (filled_any _ l _ HUV.out).mono ?_; rintro e w4 ⟨g, rfl, hg, hrow, hb4⟩; have HB4 := Lib.hid (HB3.out.trans (hb4.mono HB3.out.size)); have HROW := Lib.hid hrow; clear hb4 hrow))
  have hbv := HROW.out.bv (by rw [fill_len]; unfold maxLen; omega)
  rw [fill_len] at hbv
  go_ret2
  exact ⟨_, rfl, hbv, HB4.out⟩
end Go.Proofs.Ytanmhjbeookfiaa
