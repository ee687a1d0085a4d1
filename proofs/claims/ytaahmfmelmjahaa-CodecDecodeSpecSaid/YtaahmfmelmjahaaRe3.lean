/-
  The reference's encoder: texts, and all.
-/
import Derived.Test.YtaahmfmelmjahaaRe2
import Derived.Deep.RegionHeld3
namespace Go.Proofs.Ytaahmfmelmjahaa
open Go Go.RowKit
theorem own_use {w : World} {v : Value} {xs : List Value} {G : Prop} (h : Own w v xs) (k : Own w v xs → G) : G := k h
theorem own_kept {X w2 : World} {x : Value} {T : TypeId} (hb : Below (X.alloc (.cells #[x] T)).drew.heap.size (X.alloc (.cells #[x] T)).drew w2) : Own w2 (.slice (some ⟨X.heap.size, 0, none⟩) 1 1) [x] :=
  (own_one X x T).keep hb.size fun k hk => hb.block k ((own_one X x T).lt hk)
theorem own_ge {v v' : Value} {B n : Nat} (hv : ∀ j, v.ownBlock = some j → B ≤ j) (hB : B ≤ n) (h : v'.ownBlock = v.ownBlock ∨ ∃ k, v'.ownBlock = some k ∧ n ≤ k) : ∀ j, v'.ownBlock = some j → B ≤ j := fun j hj => by
  rcases h with e | ⟨k, e, hk⟩
  · exact hv j (by rw [← e]; exact hj)
  · rw [e] at hj
    simp only [Option.some.injEq] at hj
    omega
theorem grow_cell {w w' : World} {v : Value} {b o : Nat} {x : Value} {B : Nat} (hg : w.grownBy w' v.ownBlock) (hc : w.cell? ⟨b, o, none⟩ = some x) (hv : ∀ j, v.ownBlock = some j → B ≤ j) (hb : b < B) : w'.cell? ⟨b, o, none⟩ = some x :=
  hg.cell hc (fun e => by have h : B ≤ b := hv b e.symm; omega)
theorem slice_ge {g n c B : Nat} (h : B ≤ g) : ∀ j, (Value.slice (some ⟨g, 0, none⟩) n c).ownBlock = some j → B ≤ j := fun j hj => by
  simp only [Value.ownBlock, Option.some.injEq] at hj
  omega
set_option maxRecDepth 100000 in
set_option maxHeartbeats 1000000 in
theorem re_text (n : Int) (s : ByteArray) (p : Option Addr) (len c : Nat) (w : World) (hs : s.size ≤ 1099511627776) : Calls Try.prog 28 #[val 2 n s (.slice p len c)] w (RetO (2 :: (num s.size ++ s.data.toList)) w) := by
  obtain ⟨i0, hi, hz0, hz1, hz2⟩ := info_parts Try.info5
  have hwr : IntKind.u64.wrap (s.size : Int) = s.size := IntWalk.u64_in _ (by omega)
  have hd : ∀ w', Calls Try.prog 43 #[.int .u64 (IntKind.u64.wrap (s.size : Int))] w' (RetO (num s.size) w') := fun w' => by rw [hwr]; exact rnum_ret s.size w' (by unfold U64; omega)
  clear hwr
  have hl := nlen_le s.size
  unfold nlen at hl
  generalize num s.size = nm at *
  have HD := Lib.hid hd
  clear hd
  go_enter Try.func28, Try.ntmps28
  go_wp2_with fail
  generalize hw1 : w.alloc _ = w1
  have hb1 : Below (w.heap.size + 1) (w.alloc (.cells #[.int .i64 2, .int .i64 n, .string s, .slice p len c] 24)) w1 := by rw [hw1]; exact Below.refl _ _
  obtain ⟨c0, c1, c2, c3⟩ := boxed hb1
  have hz1' : w1.heap.size = w.heap.size + 1 := by rw [← hw1]; simp
  have hbw : Below w.heap.size w w1 := (one_new _ _).trans (hb1.mono (by simp))
  have hlt1 : w.heap.size < w1.heap.size := by omega
  have HZ := Lib.hid hz1'
  clear hw1 hb1 hz1'
  have hb63 : ([Value.int .u8 2] : List Value).length + nm.length ≤ maxLen := by simp only [List.length_singleton]; unfold maxLen; omega
  have hb48 : (([Value.int .u8 2] : List Value).length + nm.length) * 1 ≤ 140737488355328 := by simp only [List.length_singleton]; omega
  have hc63 : ([Value.int .u8 2] ++ nm.map byt).length + s.size ≤ maxLen := by simp only [List.length_append, List.length_singleton, List.length_map]; unfold maxLen; omega
  have hc48 : (([Value.int .u8 2] ++ nm.map byt).length + s.size) * 1 ≤ 140737488355328 := by simp only [List.length_append, List.length_singleton, List.length_map]; omega
  have B63 := Lib.hid hb63
  have B48 := Lib.hid hb48
  have C63 := Lib.hid hc63
  have C48 := Lib.hid hc48
  clear hb63 hb48 hc63 hc48 c0 c1 c3
  go_region_held3 (fun W => W.cell? ⟨w.heap.size, 2, none⟩ = some (.string s))
    (first | exact a4 | exact a3 | exact a2 | go_keep)
    (first
      | (go_at_call 43; refine (HD.out _).mono ?_; rintro e w2 ⟨v2, rfl, hown2, hv2, hb2⟩; have a2 : w2.cell? ⟨w.heap.size, 2, none⟩ = some (.string s) := (by rw [hb2.cell (by simp <;> omega)]; go_simp); first | ((with_reducible refine own_use (own_kept hb2) ?_); intro ho1) | skip)
      | (refine step_own rfl (.tmp 17) (.tmp 22) 27 27 rfl 5 i0 (.int .u8 0) 1 Try.underlying27 hi hz0 hz1 hz2 rfl _ v2 [.int .u8 2] (by rfl) ho1 nm.length (nm.map byt) (by rfl) (own_src hown2) B63.out B48.out ?_; intro v3 w3 hown3 hgrow3 hnew3; have a3 : w3.cell? ⟨w.heap.size, 2, none⟩ = some (.string s) := grow_cell hgrow3 a2 (slice_ge (B := w1.heap.size) (Nat.le_refl _)) hlt1; have hv3 := own_ge (slice_ge (B := w1.heap.size) (Nat.le_refl _)) (by have := hb2.size; simp at this; omega) hnew3)
      | (refine step_own rfl (.tmp 23) (.tmp 25) 27 9 rfl 5 i0 (.int .u8 0) 1 Try.underlying27 hi hz0 hz1 hz2 rfl v3 (.string s) _ (by rfl) hown3 s.size (byteCells s) (by rfl) (Src.ofString _ Try.underlying9 s) C63.out C48.out ?_; intro v4 w4 hown4 hgrow4 hnew4; have a4 : w4.cell? ⟨w.heap.size, 2, none⟩ = some (.string s) := grow_cell hgrow4 a3 hv3 hlt1)
      | (refine step_own rfl (.tmp 17) (.tmp 22) 27 27 rfl 5 i0 (.int .u8 0) 1 Try.underlying27 hi hz0 hz1 hz2 rfl _ v2 [.int .u8 2] (by rfl) (own_one w2 (.int .u8 2) 5) nm.length (nm.map byt) (by rfl) (own_src (hown2.alloc _)) B63.out B48.out ?_; intro v3 w3 hown3 hgrow3 hnew3; have a3 : w3.cell? ⟨w.heap.size, 2, none⟩ = some (.string s) := grow_cell hgrow3 ((World.cell?_alloc_lt _ _ _ (World.block_lt_of_cell? _ _ a2)).trans a2) (slice_ge (B := w1.heap.size) (by have := hb2.size; simpa using this)) hlt1; have hv3 := own_ge (slice_ge (B := w1.heap.size) (by have := hb2.size; simpa using this)) (by have := hb2.size; simp at this; simp; omega) hnew3))
  · have b2 : Below w1.heap.size w1 w2 := ((one_new w1 _).drew).trans (hb2.mono (by simp))
    have b3 : Below w1.heap.size w1 w3 := b2.grown hgrow3 b2.size fun k hk => slice_ge (Nat.le_refl _) k hk
    have b4 : Below w1.heap.size w1 w4 := b3.grown hgrow4 b3.size fun k hk => hv3 k hk
    have v4' := own_ge hv3 b3.size hnew4
    go_wp2_with fail
    go_ret
    exact ⟨v4, rfl, by show Own w4 v4 (byt 2 :: ((nm ++ s.data.toList).map byt)); rw [List.map_append]; exact hown4, fun j hj => by have := v4' j hj; omega, hbw.trans (b4.mono (by omega))⟩
  · have b2 : Below w1.heap.size w1 w2 := ((Below.refl _ w1).drew).trans (hb2.mono (by simp))
    have b3 : Below w1.heap.size w1 w3 := (b2.alloc b2.size _).grown hgrow3 (by have := b2.size; simp; omega) fun k hk => slice_ge b2.size k hk
    have b4 : Below w1.heap.size w1 w4 := b3.grown hgrow4 b3.size fun k hk => hv3 k hk
    have v4' := own_ge hv3 b3.size hnew4
    go_wp2_with fail
    go_ret
    exact ⟨v4, rfl, by show Own w4 v4 (byt 2 :: ((nm ++ s.data.toList).map byt)); rw [List.map_append]; exact hown4, fun j hj => by have := v4' j hj; omega, hbw.trans (b4.mono (by omega))⟩
theorem re_step (k n : Int) (s : ByteArray) (q : F) (hall : q.All ReOK) : ReOK k n s q := by
  intro L w hs hL hwf hl
  obtain ⟨p, c, e, hlen⟩ := hL.shape
  have hl2 : 1 + nlen (hdv k n s.size q.len) + s.size + F.sz q ≤ 1099511627776 := hl
  unfold wfv at hwf
  by_cases h1 : k = 1
  · subst h1
    simp only [if_true, Bool.and_eq_true, beq_iff_eq] at hwf
    have hs0 : s.data.toList = [] := List.eq_nil_of_length_eq_zero (by rw [Array.length_toList]; exact hwf.1)
    have hq0 : q = .nil := by
      cases q with
      | nil => rfl
      | cons => simp [F.len] at hwf
    have he : encv 1 n s q = 1 :: num (uns n) := by unfold encv; rw [hs0, hq0]; simp [F.enc, hdv]
    rw [he, e]
    exact re_int n s p q.len c w hs.2.1
  · rw [if_neg h1] at hwf
    by_cases h2 : k = 2
    · subst h2
      simp only [if_true, Bool.and_eq_true, beq_iff_eq] at hwf
      have hq0 : q = .nil := by
        cases q with
        | nil => rfl
        | cons => simp [F.len] at hwf
      have he : encv 2 n s q = 2 :: (num s.size ++ s.data.toList) := by unfold encv; rw [hq0]; simp [F.enc, hdv]
      rw [he, e]
      exact re_text n s p q.len c w (by omega)
    · rw [if_neg h2] at hwf
      by_cases h3 : k = 3
      · subst h3
        simp only [if_true, Bool.and_eq_true, beq_iff_eq] at hwf
        have hs0 : s.data.toList = [] := List.eq_nil_of_length_eq_zero (by rw [Array.length_toList]; exact hwf.2.1)
        have he : encv 3 n s q = 3 :: (num q.len ++ F.enc q) := by unfold encv; rw [hs0]; simp [hdv]
        have h4 : q.len = 0 ∨ ∃ b' o, p = some ⟨b', o, none⟩ ∧ b' < w.heap.size ∧ Lies w q b' o := by
          rcases hL with ⟨p', c', e', rfl⟩ | ⟨b', o, cap, e', e1, e2, e3, e4⟩
          · exact .inl rfl
          · rw [e] at e'
            simp only [Value.slice.injEq] at e'
            exact .inr ⟨b', o, e'.1, e3, e4⟩
        rw [he, e]
        exact re_list n s q p q.len c w hlen rfl hall h4 hwf.2.2 (by unfold Hid; omega)
      · rw [if_neg h3] at hwf
        cases hwf
theorem re_any (k n : Int) (s : ByteArray) (q : F) : ReOK k n s q := (F.all_of re_step (.cons k n s q .nil)).1
end Go.Proofs.Ytaahmfmelmjahaa
