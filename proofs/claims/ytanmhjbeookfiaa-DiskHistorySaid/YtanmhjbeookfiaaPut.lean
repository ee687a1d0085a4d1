/-
  Disks: put: a sector of a list that the call made is replaced.
-/
import Derived.Test.YtanmhjbeookfiaaFil
import Derived.RegionTactic
import Derived.StillTailTactics
namespace Go.Proofs.Ytanmhjbeookfiaa
open Go Go.RowKit
/-- a slice of bytes outside a block -/
def BVx (G : Nat) (w : World) (v : Value) (l : List UInt8) : Prop := ∃ (b cap : Nat) (p : Option Addr), v = .slice p l.length cap ∧ l.length ≤ cap ∧ cap ≤ maxLen ∧ (p = none → cap = 0) ∧ b ≠ G ∧ Bts w b p l
theorem BVx.bv {G : Nat} {w : World} {v : Value} {l : List UInt8} (h : BVx G w v l) : BV w v l := by
  obtain ⟨b, cap, p, e, h1, h2, h3, h4, h5⟩ := h
  exact ⟨b, cap, p, e, h1, h2, h3, h5⟩
theorem Bts.chg {G : Nat} {w w' : World} {b : Nat} {p : Option Addr} {l : List UInt8} (h : Bts w b p l) (hg : b ≠ G) (hb : Chg G w w') : Bts w' b p l := by
  rcases h with h4 | ⟨o, e, hlt, hc⟩
  · exact .inl h4
  · exact .inr ⟨o, e, Nat.lt_of_lt_of_le hlt hb.size, fun j c hj => (hb.cell hlt hg).trans (hc j c hj)⟩
theorem BVx.chg {G : Nat} {w w' : World} {v : Value} {l : List UInt8} (h : BVx G w v l) (hb : Chg G w w') : BVx G w' v l := by
  obtain ⟨b, cap, p, e, h1, h2, h3, h4, h5⟩ := h
  exact ⟨b, cap, p, e, h1, h2, h3, h4, h5.chg h4 hb⟩
theorem BVx.of_new {G : Nat} {w : World} {v : Value} {l : List UInt8} (h : BV w v l) (hG : w.heap.size ≤ G) : BVx G w v l := by
  obtain ⟨b, cap, p, e, h1, h2, h3, h4⟩ := h
  rcases h4 with h4 | ⟨o, e', hlt, hc⟩
  · exact ⟨G + 1, cap, p, e, h1, h2, h3, by omega, .inl h4⟩
  · exact ⟨b, cap, p, e, h1, h2, h3, by omega, .inr ⟨o, e', hlt, hc⟩⟩
/-- a list of sectors in a block that the call made -/
structure OS (w : World) (G : Nat) (s : List (List UInt8)) : Prop where
  lt : G < w.heap.size
  free : ∀ o, w.frozen? ⟨G, o, none⟩ = false
  at' : ∀ (j : Nat) (l : List UInt8), s[j]? = some l → ∃ u, w.cell? ⟨G, j, none⟩ = some u ∧ BVx G w u l
theorem OS.below {w w' : World} {G : Nat} {s : List (List UInt8)} (h : OS w G s) (hb : Below w.heap.size w w') : OS w' G s :=
  ⟨Nat.lt_of_lt_of_le h.lt hb.size, fun o => (hb.frozen (p := ⟨G, o, none⟩) h.lt).trans (h.free o), fun j l hj => by
    obtain ⟨u, h1, h2⟩ := h.at' j l hj
    exact ⟨u, (bcells hb h.lt _).trans h1, h2.chg (Chg.of_below hb)⟩⟩
/-- one sector is replaced -/
theorem OS.set {w : World} {G : Nat} {s : List (List UInt8)} (h : OS w G s) (k : Nat) (v : Value) (l : List UInt8) (hk : k < s.length) (hv : BVx G w v l) : OS (w.setCell ⟨G, k, none⟩ v) G (s.set k l) := by
  have hc : Chg G w (w.setCell ⟨G, k, none⟩ v) := (Chg.refl G w).set (.inl rfl) v
  refine ⟨by simpa [World.setCell] using h.lt, fun o => by rw [World.frozen?_setCell]; exact h.free o, fun j x hj => ?_⟩
  rw [List.getElem?_set] at hj
  by_cases e : k = j
  · subst e
    rw [if_pos rfl, if_pos hk] at hj
    cases hj
    obtain ⟨u, h1, _⟩ := h.at' k _ (List.getElem?_eq_getElem hk)
    refine ⟨v, ?_, hv.chg hc⟩
    exact World.cell?_setCell_same w _ v (by rw [h1])
  · rw [if_neg e] at hj
    obtain ⟨u, h1, h2⟩ := h.at' j _ hj
    refine ⟨u, ?_, h2.chg hc⟩
    rw [World.cell?_setCell_other]
    · exact h1
    · intro e'
      cases e'
      exact e rfl
/-- what put leaves -/
def putL (s : List (List UInt8)) (k : Nat) (d : List UInt8) (many : Nat) : List (List UInt8) := s.set k (over (fill (s.getD k [])) (d.take many))
def PutR (G : Nat) (s : List (List UInt8)) (w : World) (e : Ending) (w' : World) : Prop := e = .returned (.tuple #[]) ∧ OS w' G s ∧ Chg G w w'
set_option maxHeartbeats 1000000 in
theorem put_any (G k N cap many : Nat) (s : List (List UInt8)) (dv : Value) (d : List UInt8) (w : World) (hs : OS w G s) (hN : s.length = N) (hk : k < N) (hc : N ≤ cap) (hm : cap ≤ 9223372036854775807) (hd : BVx G w dv d) (hmany : many ≤ 128) :
    Calls Try.prog 38 #[.slice (some ⟨G, 0, none⟩) N cap, .agg #[.int .i64 (k : Int), dv], .int .i64 (many : Int)] w (PutR G (putL s k d many) w) := by
  have hlt := hs.lt
  obtain ⟨so, hso⟩ : ∃ so, s[k]? = some so := ⟨s[k], List.getElem?_eq_getElem (by omega)⟩
  obtain ⟨u, hu1, hu2⟩ := hs.at' k so hso
  have hget : s.getD k [] = so := by simp [List.getD, hso]
  have HSO := Lib.hid hso
  clear hso
  obtain ⟨pu, cu, rfl, hu3, hu4⟩ := hu2.bv.shape
  obtain ⟨db, dcap, dp, rfl, hd1, hd2, hd3, hd4, hd5⟩ := hd
  have HF : Hid (∀ w', Below w.heap.size w w' → Calls Try.prog 34 #[.slice pu so.length cu] w' (RowR (fill so) 128 w')) := Lib.hid fun w' hb => filled_any _ _ w' (hu2.bv.below hb)
  have HS := Lib.hid hs
  have HD := Lib.hid hd5
  have HD4 := Lib.hid hd4
  have HG := Lib.hid hget
  have HN := Lib.hid hN
  unfold maxLen at hd2 hu4
  generalize hL : so.length = L at *
  generalize hDL : d.length = DL at *
  have HL := Lib.hid hL
  have HDL := Lib.hid hDL
  clear hs hu2 hd5 hd4 hget hN hL hDL hd3
  go_enter Try.func38, Try.ntmps38
  go_wp2_with (go_at_call 34; refine (HF.out _ (one_new _ _)).mono ?_; rintro e w1 ⟨g, rfl, hg, hr, hb1⟩)
  have c0 : w1.cell? ⟨w.heap.size, 0, none⟩ = some (.int .i64 (k : Int)) := by rw [bcells hb1 (by simp)]; go_simp
  have c1 : w1.cell? ⟨w.heap.size, 1, none⟩ = some (.slice dp DL dcap) := by rw [bcells hb1 (by simp)]; go_simp
  have hbw : Below w.heap.size w w1 := one_later hb1
  have hz : w.heap.size + 1 ≤ w1.heap.size := by have := hb1.size; simpa using this
  have hg2 : w.heap.size + 1 ≤ g := by simpa using hg
  have hmi : (many : Int) ≤ 128 := by omega
  clear hb1 hg hu1
  refine wp_region_still_tail 5 (by kernel_rfl) (by kernel_rfl) ?_
  simp only [List.take_succ_cons, List.take_zero, List.drop_succ_cons, List.drop_zero]
  iterate 5 still_step
  refine wpStill_nil ?_
  change wpList _ _ _ _ _ w1.drew
  have hr : Row w1.drew g (fill so) := hr
  have c0 : w1.drew.cell? ⟨w.heap.size, 0, none⟩ = some (.int .i64 (k : Int)) := c0
  have hbw : Below w.heap.size w w1.drew := ⟨hbw.os, hbw.tape, hbw.output, hbw.size, hbw.block⟩
  have hz : w.heap.size + 1 ≤ w1.drew.heap.size := hz
  clear c1
  generalize w1.drew = w2 at *
  go_wp2_with (refine row_copy rfl (.tmp 15) (.tmp 17) rfl g many 128 db DL dcap dp (fill so) d rfl rfl hr HDL.out (by rw [fill_len]; exact hmany) (HD.out.below hbw) (w.heap.size + 1) w2 ((Below.refl _ _).mono hz) hg2 ?_; rintro w3 hr3 hb3; have c3 := (hb3.cell (p := ⟨w.heap.size, 0, none⟩) (Nat.lt_succ_self _)).trans c0; have hbw3 := Lib.hid (hbw.trans (hb3.mono (Nat.le_succ _))); obtain ⟨u3, hu3, _⟩ := (HS.out.below hbw3.out).at' k so HSO.out; have f3 := (HS.out.below hbw3.out).free k; clear c0)
  go_end0
  refine ⟨rfl, ?_, (Chg.of_below hbw3.out).set (.inl rfl) _⟩
  have hlen : (over (fill so) (d.take many)).length = 128 := by
    rw [over_len (by rw [fill_len, List.length_take]; omega), fill_len]
  have hbv : BVx G w3 (.slice (some ⟨g, 0, none⟩) 128 128) (over (fill so) (d.take many)) := ⟨g, 128, _, by rw [hlen], by omega, by unfold maxLen; omega, (fun e => by cases e), by omega, hr3.out.bts⟩
  unfold putL
  rw [HG.out]
  exact (HS.out.below hbw3.out).set k _ _ (by rw [HN.out]; exact hk) hbv
end Go.Proofs.Ytanmhjbeookfiaa
