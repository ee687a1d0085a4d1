/-
  Disks: New, the program's.
-/
import Derived.Test.YtanmhjbeookfiaaSyn
namespace Go.Proofs.Ytanmhjbeookfiaa
open Go Go.RowKit
def sec0 : List UInt8 := List.replicate 128 0
def newS (n : Nat) : List (List UInt8) := List.replicate n sec0
def newD (n : Int) : D := if n < 1 ∨ 4096 < n then zero else ⟨newS n.toNat, [], -1, false⟩
def newE (n : Int) : Int := if n < 1 ∨ 4096 < n then 1 else 0
/-- the first k sectors are made -/
structure Made (w : World) (G N k : Nat) : Prop where
  lt : G < w.heap.size
  free : ∀ o, w.frozen? ⟨G, o, none⟩ = false
  there : ∀ j, j < N → (w.cell? ⟨G, j, none⟩).isSome = true
  at' : ∀ j, j < k → ∃ u, w.cell? ⟨G, j, none⟩ = some u ∧ BVx G w u sec0
theorem Made.os {w : World} {G N : Nat} (h : Made w G N N) : OS w G (newS N) :=
  ⟨h.lt, h.free, fun j l hj => by
    unfold newS at hj
    rw [List.getElem?_replicate] at hj
    split at hj
    · cases hj; exact h.at' j (by assumption)
    · cases hj⟩
theorem Made.below {w w' : World} {G N k : Nat} (h : Made w G N k) (hb : Below w.heap.size w w') : Made w' G N k :=
  ⟨Nat.lt_of_lt_of_le h.lt hb.size, fun o => (bfrozen hb h.lt o).trans (h.free o), fun j hj => by rw [bcells hb h.lt]; exact h.there j hj, fun j hj => by
    obtain ⟨u, h1, h2⟩ := h.at' j hj
    exact ⟨u, (bcells hb h.lt _).trans h1, h2.below hb⟩⟩
theorem Made.step {w : World} {G N k : Nat} (h : Made w G N k) (hk : k < N) {v : Value} (hv : BVx G w v sec0) : Made (w.setCell ⟨G, k, none⟩ v) G N (k + 1) := by
  have hc : Chg G w (w.setCell ⟨G, k, none⟩ v) := (Chg.refl G w).set (.inl rfl) v
  have hth := h.there k hk
  have hsame : (w.setCell ⟨G, k, none⟩ v).cell? ⟨G, k, none⟩ = some v := by
    cases hq : w.cell? ⟨G, k, none⟩ with
    | none => rw [hq] at hth; cases hth
    | some u => exact World.cell?_setCell_same w _ v (by rw [hq])
  refine ⟨by simpa [World.setCell] using h.lt, fun o => by rw [World.frozen?_setCell]; exact h.free o, fun j hj => ?_, fun j hj => ?_⟩
  · by_cases e : k = j
    · subst e; rw [hsame]; rfl
    · rw [sc_other e]; exact h.there j hj
  · by_cases e : k = j
    · subst e; exact ⟨v, hsame, hv.chg hc⟩
    · obtain ⟨u, h1, h2⟩ := h.at' j (by omega)
      exact ⟨u, by rw [sc_other e]; exact h1, h2.chg hc⟩
theorem made_zero {w : World} {G N : Nat} (hr : HRow w G (List.replicate N nils)) : Made w G N 0 := by
  unfold HRow at hr
  refine ⟨(Array.getElem?_eq_some_iff.1 hr).1, fun o => by simp [World.frozen?, hr], fun j hj => by simp [World.cell?, hr, hj], fun j hj => by omega⟩
theorem new_bad {n : Int} (h : n < 1 ∨ 4096 < n) : newD n = zero ∧ newE n = 1 := by unfold newD newE; rw [if_pos h, if_pos h]; exact ⟨rfl, rfl⟩
theorem new_ok {n : Nat} (h1 : 1 ≤ n) (h2 : n ≤ 4096) : newD n = ⟨newS n, [], -1, false⟩ ∧ newE n = 0 := by
  have h : ¬((n : Int) < 1 ∨ 4096 < (n : Int)) := by omega
  unfold newD newE
  rw [if_neg h, if_neg h]
  exact ⟨rfl, rfl⟩
set_option maxHeartbeats 1000000 in
theorem new_any_bad (n : Int) (w : World) (h : n < 1 ∨ 4096 < n) : Calls Try.prog 12 #[.int .i64 n] w (RetD (newD n) (newE n) w) := by
  rw [(new_bad h).1, (new_bad h).2]
  have r0 : (w.alloc (.cells #[.slice none 0 0, .slice none 0 0, .int .i64 0, .bool false] 25)).heap[w.heap.size]? = some (.cells #[.slice none 0 0, .slice none 0 0, .int .i64 0, .bool false] 25 (0, 0)) := heap_alloc_new _ _
  have R0 := Lib.hid r0
  clear r0
  rcases h with h | h
  all_goals
    go_enter Try.func12, Try.ntmps12
    go_wp2_with (refine dk_store rfl (.tmp 2) (.tmp 11) rfl w.heap.size _ _ _ _ _ R0.out rfl rfl rfl ⟨rfl, rfl, rfl, rfl⟩ ?_; rintro w2 r2 hc2)
    exact bodyPost_ret (results_dk rfl _ _ _ _ _ _ _ _ rfl rfl r2.out) rfl ⟨_, rfl, zero_DV _, Chg.below (one_new w _) (by simp) (Nat.le_refl _) hc2⟩
set_option maxHeartbeats 1000000 in
theorem new_any_ok (n : Nat) (w : World) (h1 : 1 ≤ n) (h2 : n ≤ 4096) : Calls Try.prog 12 #[.int .i64 (n : Int)] w (RetD (newD n) (newE n) w) := by
  rw [(new_ok h1 h2).1, (new_ok h1 h2).2]
  have n1 : ¬ ((n : Int) < 1) := by omega
  have n2 : ¬ (4096 < (n : Int)) := by omega
  have mk := made_run22 n h2
  go_enter Try.func12, Try.ntmps12
  go_upto_region 4 with fail
  have hr0 : HRow ((w.alloc (.cells #[.slice (some ⟨w.heap.size + 1, 0, none⟩) n n, .slice none 0 0, .int .i64 (-1), .bool false] 25)).alloc (.cells (nrow n) 35)) (w.heap.size + 1) (List.replicate n nils) := by
    have h := hrow_new (w.alloc (.cells #[.slice (some ⟨w.heap.size + 1, 0, none⟩) n n, .slice none 0 0, .int .i64 (-1), .bool false] 25)) n
    rwa [World.size_alloc] at h
  have hbx : ((w.alloc (.cells #[.slice (some ⟨w.heap.size + 1, 0, none⟩) n n, .slice none 0 0, .int .i64 (-1), .bool false] 25)).alloc (.cells (nrow n) 35)).heap[w.heap.size]? = some (.cells #[.slice (some ⟨w.heap.size + 1, 0, none⟩) n n, .slice none 0 0, .int .i64 (-1), .bool false] 25 (0, 0)) := by
    rw [Below.heap_alloc _ _ _ (by simp)]
    exact heap_alloc_new _ _
  have hb0 := two_below w (.cells #[.slice (some ⟨w.heap.size + 1, 0, none⟩) n n, .slice none 0 0, .int .i64 (-1), .bool false] 25) (.cells (nrow n) 35)
  generalize (w.alloc (.cells #[.slice (some ⟨w.heap.size + 1, 0, none⟩) n n, .slice none 0 0, .int .i64 (-1), .bool false] 25)).alloc (.cells (nrow n) 35) = w1 at *
  have cells4 : ∀ W : World, W.heap[w.heap.size]? = some (.cells #[.slice (some ⟨w.heap.size + 1, 0, none⟩) n n, .slice none 0 0, .int .i64 (-1), .bool false] 25 (0, 0)) → (W.cell? ⟨w.heap.size, 0, none⟩ = some (.slice (some ⟨w.heap.size + 1, 0, none⟩) n n) ∧ W.cell? ⟨w.heap.size, 1, none⟩ = some (.slice none 0 0) ∧ W.cell? ⟨w.heap.size, 2, none⟩ = some (.int .i64 (-1)) ∧ W.cell? ⟨w.heap.size, 3, none⟩ = some (.bool false)) := fun W h => by simp [World.cell?, h]
  have c0 := (cells4 _ hbx).1
  have HBX := Lib.hid hbx
  have HM := Lib.hid (made_zero hr0)
  have HC4 := Lib.hid cells4
  clear hbx hr0 mk cells4
  go_wp2_with fail
  go_loopw [18] (fun i wr => ∃ k : Nat, k ≤ n ∧ i = .int .i64 k ∧ Hid (Made wr (w.heap.size + 1) n k) ∧ Hid (wr.heap[w.heap.size]? = some (.cells #[.slice (some ⟨w.heap.size + 1, 0, none⟩) n n, .slice none 0 0, .int .i64 (-1), .bool false] 25 (0, 0))) ∧ Hid (Below w.heap.size w wr)) (fun i _ => n - (intOf i).toNat)
  case atStart => exact ⟨0, Nat.zero_le _, rfl, HM, HBX, Lib.hid hb0⟩
  case round =>
    clear HM HBX hb0 c0
    obtain ⟨k, hk, rfl, HM, HBX, HB⟩ := hrel
    obtain ⟨c0, c1, c2, c3⟩ := HC4.out _ HBX.out
    have hz := HM.out.lt
    have hz1 : w.heap.size < wr.heap.size := by omega
    by_cases hlt : k < n
    · have hth := HM.out.there k hlt
      obtain ⟨u0, hu0⟩ := Option.isSome_iff_exists.1 hth
      have f0 := HM.out.free k
      have mk := mk128
      clear hth
      go_wp2_with fail
      go_region
      go_wp2_with fail
      go_roundw
      case rel =>
        have hb1 := one_new wr (.cells (zrow 128) 5)
        have hdr : ∀ W : World, Below W.heap.size W W.drew := fun W => ⟨rfl, rfl, rfl, Nat.le_refl _, fun _ _ => rfl⟩
        have hbv : BVx (w.heap.size + 1) (wr.alloc (.cells (zrow 128) 5)) (.slice (some ⟨wr.heap.size, 0, none⟩) 128 128) sec0 := ⟨wr.heap.size, 128, _, by simp [sec0], by simp [sec0], by unfold maxLen; omega, (fun e => by cases e), by omega, (row_new wr 128).bts⟩
        have hM := ((HM.out.below hb1).step hlt hbv)
        have hH : ((wr.alloc (.cells (zrow 128) 5)).setCell ⟨w.heap.size + 1, k, none⟩ (.slice (some ⟨wr.heap.size, 0, none⟩) 128 128)).heap[w.heap.size]? = some (.cells #[.slice (some ⟨w.heap.size + 1, 0, none⟩) n n, .slice none 0 0, .int .i64 (-1), .bool false] 25 (0, 0)) := row_set ((hb1.block _ hz1).trans HBX.out) (by omega)
        have hB : Below w.heap.size w ((wr.alloc (.cells (zrow 128) 5)).setCell ⟨w.heap.size + 1, k, none⟩ (.slice (some ⟨wr.heap.size, 0, none⟩) 128 128)) := below_set (HB.out.trans (hb1.mono HB.out.size)) (by omega) _
        rw [World.setCell_alloc_past _ _ _ _ hz] at hM hH hB
        exact ⟨k + 1, by omega, by go_num, Lib.hid (hM.below (hdr _)), Lib.hid hH, Lib.hid (hB.trans ((hdr _).mono hB.size))⟩
      case measure => simp [intOf]; omega
    · have HR := HBX
      have hkn : k = n := by omega
      subst hkn
      go_wp2_with (refine dk_store rfl (.tmp 2) (.tmp 27) rfl w.heap.size _ _ _ _ _ HR.out rfl rfl rfl ⟨rfl, rfl, rfl, rfl⟩ ?_; rintro w5 r5 hc5)
      have hos := (HM.out.os).chgRow (R := w.heap.size) (by omega) HR.out (fun v hv c => by
        simp only [List.mem_cons, List.not_mem_nil, or_false] at hv
        rcases hv with rfl | rfl | rfl | rfl
        · exact nb_slice c
        · exact nb_slice c
        · exact nb_i64 c
        · exact nb_bool c) hc5
      exact bodyPost_ret (results_dk rfl _ _ _ _ _ _ _ _ rfl rfl r5.out) rfl ⟨_, rfl, dv_os hos (by simp [newS]) h2 (by unfold W64; omega), Chg.below HB.out HB.out.size (Nat.le_refl _) hc5⟩
theorem new_any (n : Int) (w : World) : Calls Try.prog 12 #[.int .i64 n] w (RetD (newD n) (newE n) w) := by
  by_cases h : n < 1 ∨ 4096 < n
  · exact new_any_bad n w h
  · obtain ⟨m, rfl⟩ := Int.eq_ofNat_of_zero_le (show 0 ≤ n by omega)
    exact new_any_ok m w (by omega) (by omega)
end Go.Proofs.Ytanmhjbeookfiaa
