/-
  Disks: the reference's New.
-/
import Derived.Test.YtanmhjbeookfiaaNew
import Derived.Deep.RegionHeld3
import Derived.Deep.RegionLaw
namespace Go.Proofs.Ytanmhjbeookfiaa
open Go Go.RowKit
theorem inf35 : ∃ i, Try.prog.info? 35 = some i ∧ i.zero = some (.slice none 0 0) ∧ i.size = 1 ∧ i.bytes = 24 := by
  have h := info35
  cases hi : Try.prog.info? 35 with
  | none => rw [hi] at h; cases h
  | some i =>
    rw [hi] at h
    simp only [Option.map_some, Option.some.injEq, Prod.mk.injEq] at h
    exact ⟨i, rfl, h.2.2, h.1, h.2.1⟩
theorem drew_below {m : Nat} {w0 w : World} (h : Below m w0 w) : Below m w0 w.drew := ⟨h.os, h.tape, h.output, h.size, h.block⟩
/-- so many sectors of zeros lie in a slice that the call owns, whose header lies in block B -/
structure NW (w0 w : World) (B : Nat) (v : Value) (us : List Value) : Prop where
  box : w.heap[B]? = some (.cells #[v, .slice none 0 0, .int .i64 (-1), .bool false] 25 (0, 0))
  own : Own w v us
  ne : v.ownBlock ≠ some B
  new : ∀ k, v.ownBlock = some k → w0.heap.size < k
  row : ∀ u ∈ us, ∃ b, u = .slice (some ⟨b, 0, none⟩) 128 128 ∧ Row w b sec0 ∧ v.ownBlock ≠ some b ∧ b ≠ B ∧ w0.heap.size < b
  below : Below w0.heap.size w0 w
theorem row4 {W : World} {B : Nat} {a b c d : Value} (h : W.heap[B]? = some (.cells #[a, b, c, d] 25 (0, 0))) : (W.cell? ⟨B, 0, none⟩ = some a ∧ W.cell? ⟨B, 1, none⟩ = some b ∧ W.cell? ⟨B, 2, none⟩ = some c ∧ W.cell? ⟨B, 3, none⟩ = some d) ∧ B < W.heap.size ∧ W.frozen? ⟨B, 0, none⟩ = false := by
  refine ⟨by simp [World.cell?, h], (Array.getElem?_eq_some_iff.1 h).1, by simp [World.frozen?, h]⟩
/-- one more sector -/
theorem NW.step {w0 wr w' : World} {B : Nat} {v v' : Value} {us : List Value} (h : NW w0 wr B v us) (hB : w0.heap.size ≤ B)
    (hown : Own w' v' (us ++ [.slice (some ⟨wr.heap.size, 0, none⟩) 128 128])) (hgrow : (((wr.alloc (.cells (zrow 128) 5)).alloc (.cells #[.slice (some ⟨wr.heap.size, 0, none⟩) 128 128] 35)).drew).grownBy w' v.ownBlock)
    (hblk : v'.ownBlock = v.ownBlock ∨ ∃ k, v'.ownBlock = some k ∧ (((wr.alloc (.cells (zrow 128) 5)).alloc (.cells #[.slice (some ⟨wr.heap.size, 0, none⟩) 128 128] 35)).drew).heap.size ≤ k) :
    NW w0 (w'.setCell ⟨B, 0, none⟩ v') B v' (us ++ [.slice (some ⟨wr.heap.size, 0, none⟩) 128 128]) := by
  obtain ⟨g1, g2, g3, g4, g5⟩ := hgrow
  have hsz : (((wr.alloc (.cells (zrow 128) 5)).alloc (.cells #[.slice (some ⟨wr.heap.size, 0, none⟩) 128 128] 35)).drew).heap.size = wr.heap.size + 2 := by simp
  have hBlt := (Array.getElem?_eq_some_iff.1 h.box).1
  have old : ∀ k, k < wr.heap.size → v.ownBlock ≠ some k → w'.heap[k]? = wr.heap[k]? := fun k hk hne => by
    rw [g5 k (by rw [hsz]; omega) (fun e => hne e.symm)]
    exact (two_below wr _ _).block k hk
  have hbox := (old B hBlt h.ne).trans h.box
  have hownlt : ∀ k, v.ownBlock = some k → k < wr.heap.size := fun k hk => h.own.lt hk
  have hne' : v'.ownBlock ≠ some B := by
    rcases hblk with e | ⟨k, e, hk⟩
    · rw [e]; exact h.ne
    · rw [e]; intro e'; cases e'; rw [hsz] at hk; omega
  have hsc : ∀ k, k ≠ B → (w'.setCell ⟨B, 0, none⟩ v').heap[k]? = w'.heap[k]? := fun k hk => by rw [Below.heap_setCell _ _ _ _ (fun e => hk e)]
  have hrow : Row w' wr.heap.size sec0 := by
    have h0 : (((wr.alloc (.cells (zrow 128) 5)).alloc (.cells #[.slice (some ⟨wr.heap.size, 0, none⟩) 128 128] 35)).drew).heap[wr.heap.size]? = some (.cells (zrow 128) 5) := (heap_alloc_old (wr.alloc (.cells (zrow 128) 5)) _ (by simp)).trans (heap_alloc_new wr _)
    exact (g5 wr.heap.size (by rw [hsz]; omega) (fun e => by have := hownlt _ e.symm; omega)).trans h0
  refine ⟨?_, ?_, hne', ?_, ?_, ?_⟩
  · simp only [World.setCell, Array.getElem?_modify, hbox]
    simp
  · exact hown.keep (by simp [World.setCell]) fun k hk => hsc k (fun e => by subst e; exact hne' hk)
  · intro k hk
    rcases hblk with e | ⟨k', e, hk'⟩
    · exact h.new k (e ▸ hk)
    · rw [e] at hk; cases hk; rw [hsz] at hk'; have := h.below.size; omega
  · intro u hu
    rcases List.mem_append.1 hu with hu | hu
    · obtain ⟨b, e, hr, hb1, hb2, hb3⟩ := h.row u hu
      refine ⟨b, e, (hsc b hb2).trans ((old b hr.lt hb1).trans hr), ?_, hb2, hb3⟩
      rcases hblk with e' | ⟨k, e', hk⟩
      · rw [e']; exact hb1
      · rw [e']; intro e2; cases e2; have := hr.lt; rw [hsz] at hk; omega
    · obtain rfl : u = .slice (some ⟨wr.heap.size, 0, none⟩) 128 128 := by simpa using hu
      refine ⟨wr.heap.size, rfl, (hsc _ (by omega)).trans hrow, ?_, by omega, by omega⟩
      rcases hblk with e' | ⟨k, e', hk⟩
      · rw [e']; intro e2; have := hownlt _ e2; omega
      · rw [e']; intro e2; cases e2; rw [hsz] at hk; omega
  · refine below_set ?_ hB _
    refine ⟨g1.trans h.below.os, g2.trans h.below.tape, g3.trans h.below.output, ?_, fun k hk => ?_⟩
    · have := h.below.size; rw [hsz] at g4; omega
    · have hk2 : k < wr.heap.size := Nat.lt_of_lt_of_le hk h.below.size
      rw [old k hk2 (fun e => by have := h.new k e; omega)]
      exact h.below.block k hk
theorem NW.keepR {w0 wr w' : World} {B : Nat} {v v' : Value} {us : List Value} {o1 o2 : Obj} {x : Obj} (h : NW w0 wr B v us) (hB : w0.heap.size < B) (hgrow : (((wr.alloc o1).alloc o2).drew).grownBy w' v.ownBlock) (hx : wr.heap[w0.heap.size]? = some x) :
    (w'.setCell ⟨B, 0, none⟩ v').heap[w0.heap.size]? = some x := by
  have hlt := (Array.getElem?_eq_some_iff.1 hx).1
  rw [Below.heap_setCell _ _ _ _ (show w0.heap.size ≠ B by omega), hgrow.block w0.heap.size (by simp; omega) (fun e => by have := h.new _ e.symm; omega)]
  exact ((two_below wr o1 o2).block _ hlt).trans hx
/-- the list at the end -/
theorem NW.os {w0 w : World} {B n : Nat} {v : Value} {us : List Value} (h : NW w0 w B v us) (hn : us.length = n) (h1 : 1 ≤ n) : ∃ g cap, v = .slice (some ⟨g, 0, none⟩) n cap ∧ n ≤ cap ∧ cap ≤ maxLen ∧ w0.heap.size < g ∧ OS w g (newS n) := by
  rcases h.own with ⟨rfl, rfl⟩ | ⟨g, cap, rfl, hat⟩
  · simp at hn; omega
  · refine ⟨g, cap, by rw [hn], by rw [← hn]; exact hat.le, hat.mx, h.new g rfl, ⟨hat.lt, hat.free, fun j l hj => ?_⟩⟩
    have hj' : j < us.length := by have := (List.getElem?_eq_some_iff.1 hj).1; simpa [newS, hn] using this
    obtain ⟨b, e, hr, hb1, _⟩ := h.row us[j] (List.getElem_mem hj')
    have hl : l = sec0 := by
      unfold newS at hj
      rw [List.getElem?_replicate] at hj
      split at hj <;> cases hj
      rfl
    subst hl
    refine ⟨us[j], hat.cells j _ (List.getElem?_eq_getElem hj'), ?_⟩
    rw [e]
    exact ⟨b, 128, _, by simp [sec0], by simp [sec0], by unfold maxLen; omega, (fun e => by cases e), (fun e => hb1 (by rw [e]; rfl)), hr.bts⟩
theorem OS.svc {w : World} {G cap : Nat} {s : List (List UInt8)} (h : OS w G s) (h1 : s.length ≤ cap) (h2 : cap ≤ maxLen) : SV w (.slice (some ⟨G, 0, none⟩) s.length cap) s :=
  ⟨G, _, _, rfl, h1, h2, (fun e => by cases e), .inr ⟨0, rfl, h.lt, fun j l hj => by
    obtain ⟨u, h1, h2⟩ := h.at' j l hj
    exact ⟨u, by rw [Nat.zero_add]; exact h1, h2.bv⟩⟩⟩
theorem own_drew {w : World} {v : Value} {xs : List Value} (h : Own w v xs) : Own w.drew v xs := h.keep (Nat.le_refl _) fun _ _ => rfl
theorem grown_frozen {wr w' : World} {o1 o2 : Obj} {row : Option Nat} {B o : Nat} (hg : (((wr.alloc o1).alloc o2).drew).grownBy w' row) (hB : B < wr.heap.size) (hne : some B ≠ row) (f : wr.frozen? ⟨B, o, none⟩ = false) : w'.frozen? ⟨B, o, none⟩ = false := by
  rw [World.frozen?_of_block (a := ⟨B, o, none⟩) (hg.block B (by simp; omega) hne)]
  exact (bfrozen (two_below wr o1 o2) hB o).trans f
theorem grown_cell {wr w' : World} {o1 o2 : Obj} {row : Option Nat} {B o : Nat} {v : Value} (hg : (((wr.alloc o1).alloc o2).drew).grownBy w' row) (hB : B < wr.heap.size) (hne : some B ≠ row) (f : wr.cell? ⟨B, o, none⟩ = some v) : w'.cell? ⟨B, o, none⟩ = some v := by
  rw [World.cell?_of_block (a := ⟨B, o, none⟩) (hg.block B (by simp; omega) hne)]
  exact (bcells (two_below wr o1 o2) hB o).trans f
theorem src_one (wr : World) {u : Value} (hu : u.oneCell' = true := by rfl) : Src Try.prog 1 22 (.slice (some ⟨wr.heap.size + 1, 0, none⟩) 1 1) 1 [u] (((wr.alloc (.cells (zrow 128) 5)).alloc (.cells #[u] 35)).drew) :=
  Src.ofSlice _ Try.underlying22 ⟨wr.heap.size + 1, 0, none⟩ 1 1 [u] rfl (fun j x hj => by
    cases j with
    | succ j => simp at hj
    | zero =>
      obtain rfl : u = x := by simpa using hj
      have h := heap_alloc_new (wr.alloc (.cells (zrow 128) 5)) (.cells #[u] 35)
      rw [World.size_alloc] at h
      have h' : (((wr.alloc (.cells (zrow 128) 5)).alloc (.cells #[u] 35)).drew).heap[wr.heap.size + 1]? = some (.cells #[u] 35) := h
      rw [Addr.add_lit, Nat.add_zero]
      simp only [World.cell?]
      rw [h']
      rfl) (fun x hx => by
    obtain rfl : x = u := by simpa using hx
    exact hu)
set_option maxHeartbeats 1000000 in
theorem rnew_bad (n : Int) (w : World) (h : n < 1 ∨ 4096 < n) : Calls Try.prog 13 #[.int .i64 n] w (RetD (newD n) (newE n) w) := by
  rw [(new_bad h).1, (new_bad h).2]
  have r0 : (w.alloc (.cells #[.slice none 0 0, .slice none 0 0, .int .i64 0, .bool false] 25)).heap[w.heap.size]? = some (.cells #[.slice none 0 0, .slice none 0 0, .int .i64 0, .bool false] 25 (0, 0)) := heap_alloc_new _ _
  have R0 := Lib.hid r0
  clear r0
  rcases h with h | h
  all_goals
    go_enter Try.func13, Try.ntmps13
    go_wp2_with (refine dk_store rfl (.tmp 2) (.tmp 12) rfl w.heap.size _ _ _ _ _ R0.out rfl rfl rfl ⟨rfl, rfl, rfl, rfl⟩ ?_; rintro w2 r2 hc2)
    exact bodyPost_ret (results_dk rfl _ _ _ _ _ _ _ _ rfl rfl r2.out) rfl ⟨_, rfl, zero_DV _, Chg.below (one_new w _) (by simp) (Nat.le_refl _) hc2⟩
set_option maxHeartbeats 2000000 in
theorem rnew_ok (n : Nat) (w : World) (h1 : 1 ≤ n) (h2 : n ≤ 4096) : Calls Try.prog 13 #[.int .i64 (n : Int)] w (RetD (newD n) (newE n) w) := by
  rw [(new_ok h1 h2).1, (new_ok h1 h2).2]
  have n1 : ¬ ((n : Int) < 1) := by omega
  have n2 : ¬ (4096 < (n : Int)) := by omega
  obtain ⟨i0, hi0, hz0, hsz0, hby0⟩ := inf35
  go_enter Try.func13, Try.ntmps13
  go_wp2_with fail
  go_loopw [5] (fun i wr => ∃ (k : Nat) (v : Value) (us : List Value), k ≤ n ∧ i = .int .i64 k ∧ Hid (us.length = k) ∧ Hid (NW w wr (w.heap.size + 1) v us) ∧ Hid (wr.heap[w.heap.size]? = some (.cells #[.slice none 0 0, .slice none 0 0, .int .i64 0, .bool false] 25 (0, 0)))) (fun i _ => n - (intOf i).toNat)
  case atStart =>
    refine ⟨0, .slice none 0 0, [], Nat.zero_le _, rfl, Lib.hid rfl, Lib.hid ⟨?_, Own.nil _, (fun e => by cases e), (fun k hk => by cases hk), (fun u hu => by simp at hu), two_below _ _ _⟩, Lib.hid ?_⟩
    · have h := heap_alloc_new (w.alloc (.cells #[.slice none 0 0, .slice none 0 0, .int .i64 0, .bool false] 25)) (.cells #[.slice none 0 0, .slice none 0 0, .int .i64 (-1), .bool false] 25)
      rwa [World.size_alloc] at h
    · exact (heap_alloc_old (w.alloc (.cells #[.slice none 0 0, .slice none 0 0, .int .i64 0, .bool false] 25)) _ (by simp)).trans (heap_alloc_new w _)
  case round =>
    obtain ⟨k, v, us, hk, rfl, HU, HN, HR⟩ := hrel
    obtain ⟨⟨c0, c1, c2, c3⟩, hz, f0⟩ := row4 HN.out.box
    by_cases hlt : k < n
    · have mk := mk128
      have hz' : w.heap.size + 1 < wr.heap.size + 1 := by omega
      have hz'' : ¬ (w.heap.size + 1 = wr.heap.size + 1) := by omega
      have HOW := Lib.hid HN.out.own
      have HNE0 := HN.out.ne
      rcases HOW.out with ⟨e1, e2⟩ | ⟨g, cap, e1, hat⟩
      · subst e1
        subst e2
        have HNE := Lib.hid HNE0.symm
        go_wp2_with fail
        go_region_law ((refine step_own (by rfl) _ _ _ _ (by rfl) 35 i0 _ 24 Try.underlying22 hi0 hz0 hsz0 hby0 (by rfl) (.slice none 0 0) _ [] (by rfl) (own_drew ((HN.out.own.alloc _).alloc _)) 1 [.slice (some ⟨wr.heap.size, 0, none⟩) 128 128] (by rfl) (src_one _) (by unfold maxLen; rw [HU.out]; omega) (by rw [HU.out]; omega) ?_; intro v' w' hown hgrow hblk; obtain ⟨g', cap', rfl, hg'⟩ := hown.form (by simp); have f1 := grown_frozen hgrow hz HNE.out f0; have cc := grown_cell hgrow hz HNE.out c0; have hzw : w.heap.size + 1 < w'.heap.size := (by have := hgrow.size; simp at this; omega); have HG := Lib.hid hgrow; have HWN := Lib.hid hown; have HBK := Lib.hid hblk))
        all_goals
          have hst := HN.out.step (by omega) HWN.out HG.out HBK.out
          rw [List.length_append] at hst
          have hR2 := HN.out.keepR (v' := .slice (some ⟨g', 0, none⟩) 1 cap') (by omega) HG.out HR.out
          have HST := Lib.hid hst
          have HR2 := Lib.hid hR2
          clear hst hR2 HG HWN HBK cc f1 c0 c1 c2 c3
          go_wp2_with fail
          go_roundw
          case rel => exact ⟨k + 1, _, _ ++ [.slice (some ⟨wr.heap.size, 0, none⟩) 128 128], by omega, by go_num, Lib.hid (by rw [List.length_append, HU.out]; rfl), HST, HR2⟩
          case measure => simp [intOf]; omega
      · subst e1
        have HNE := Lib.hid HNE0.symm
        go_wp2_with fail
        go_region_law ((refine step_own (by rfl) _ _ _ _ (by rfl) 35 i0 _ 24 Try.underlying22 hi0 hz0 hsz0 hby0 (by rfl) (.slice (some ⟨g, 0, none⟩) us.length cap) _ us (by rfl) (own_drew ((HN.out.own.alloc _).alloc _)) 1 [.slice (some ⟨wr.heap.size, 0, none⟩) 128 128] (by rfl) (src_one _) (by unfold maxLen; rw [HU.out]; omega) (by rw [HU.out]; omega) ?_; intro v' w' hown hgrow hblk; obtain ⟨g', cap', rfl, hg'⟩ := hown.form (by simp); have f1 := grown_frozen hgrow hz HNE.out f0; have cc := grown_cell hgrow hz HNE.out c0; have hzw : w.heap.size + 1 < w'.heap.size := (by have := hgrow.size; simp at this; omega); have HG := Lib.hid hgrow; have HWN := Lib.hid hown; have HBK := Lib.hid hblk))
        all_goals
          have hst := HN.out.step (by omega) HWN.out HG.out HBK.out
          rw [List.length_append] at hst
          have hR2 := HN.out.keepR (v' := .slice (some ⟨g', 0, none⟩) (us.length + 1) cap') (by omega) HG.out HR.out
          have HST := Lib.hid hst
          have HR2 := Lib.hid hR2
          clear hst hR2 HG HWN HBK cc f1 c0 c1 c2 c3
          go_wp2_with fail
          go_roundw
          case rel => exact ⟨k + 1, _, _ ++ [.slice (some ⟨wr.heap.size, 0, none⟩) 128 128], by omega, by go_num, Lib.hid (by rw [List.length_append, HU.out]; rfl), HST, HR2⟩
          case measure => simp [intOf]; omega
    · have hkn : k = n := by omega
      subst hkn
      obtain ⟨g, cap, e1, hq1, hq2, hg, hos⟩ := HN.out.os HU.out h1
      subst e1
      have HOS := Lib.hid hos
      unfold maxLen at hq2
      clear hos
      go_wp2_with (refine dk_store rfl (.tmp 2) (.tmp 25) rfl w.heap.size _ _ _ _ _ HR.out rfl rfl rfl ⟨rfl, rfl, rfl, rfl⟩ ?_; rintro w5 r5 hc5)
      have hos5 := HOS.out.chgRow (R := w.heap.size) (by omega) HR.out zero_nb hc5
      have hsv5 := hos5.svc (cap := cap) (by simpa [newS] using hq1) (by unfold maxLen; omega)
      rw [show (newS k).length = k by simp [newS]] at hsv5
      exact bodyPost_ret (results_dk rfl _ _ _ _ _ _ _ _ rfl rfl r5.out) rfl ⟨_, rfl, ⟨_, _, rfl, hsv5, nil_PV _, by show W64 (-1); unfold W64; omega⟩, Chg.below HN.out.below HN.out.below.size (Nat.le_refl _) hc5⟩
theorem rnew_any (n : Int) (w : World) : Calls Try.prog 13 #[.int .i64 n] w (RetD (newD n) (newE n) w) := by
  by_cases h : n < 1 ∨ 4096 < n
  · exact rnew_bad n w h
  · obtain ⟨m, rfl⟩ := Int.eq_ofNat_of_zero_le (show 0 ≤ n by omega)
    exact rnew_ok m w (by omega) (by omega)
end Go.Proofs.Ytanmhjbeookfiaa
