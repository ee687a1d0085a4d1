/-
  The writer of the codec: a value of each kind.
-/
import Derived.Test.YtaahmfmelmjahaaWv
import Derived.BigRegion
namespace Go.Proofs.Ytaahmfmelmjahaa
open Go Go.RowKit
theorem WSt.funcs {w : World} {b : Nat} {v : Value} {l : List UInt8} (h : WSt w b v l) : w.cell? ⟨b, 2, none⟩ = some (.func (.func 40) #[] #[]) ∧ w.cell? ⟨b, 3, none⟩ = some (.func (.func 41) #[] #[]) ∧ w.cell? ⟨b, 4, none⟩ = some (.func (.func 42) #[] #[]) := by
  refine ⟨?_, ?_, ?_⟩ <;> simp [World.cell?, h.blk]
theorem Wrote.drew {b : Nat} {v v' : Value} {w w' : World} (h : Wrote b v w.drew v' w') : Wrote b v w v' w' := ⟨h.os, h.tape, h.output, h.size, h.block, h.own⟩
theorem WSt.drew {w : World} {b : Nat} {v : Value} {l : List UInt8} (h : WSt w b v l) : WSt w.drew b v l := ⟨h.blk, h.own.keep (Nat.le_refl _) fun _ _ => rfl, h.ne⟩
set_option maxHeartbeats 1000000 in
theorem wval_1 (n : Int) (s : ByteArray) (p : Option Addr) (len c b : Nat) (v : Value) (l new : List UInt8) (w : World) (h : WSt w b v l) (hl : l.length + 1 ≤ 1099511627776)
    (hc : ∀ w' v', WSt w' b v' (l ++ [1]) → Wrote b v w v' w' → Calls Try.prog 40 #[.pointer (some ⟨b, 0, none⟩), val 1 n s (.slice p len c)] w' (Writes b v' (l ++ [1]) new w')) :
    Calls Try.prog 27 #[.pointer (some ⟨b, 0, none⟩), val 1 n s (.slice p len c)] w (Writes b v l (1 :: new) w) := by
  obtain ⟨i0, hi, hz0, hz1, hz2⟩ := info_parts Try.info5
  have HC := Lib.hid hc
  clear hc
  have hbl := h.lt
  have hol := fun k hk => h.own.lt (k := k) hk
  have hx : (Value.int .u8 (IntKind.u8.wrap 1)) = byt 1 := by rw [show IntKind.u8.wrap 1 = 1 from by decide +kernel]; rfl
  have HX := Lib.hid hx
  have hb63 : (l.map byt).length + 1 ≤ maxLen := by rw [List.length_map]; unfold maxLen; omega
  have hb48 : ((l.map byt).length + 1) * 1 ≤ 140737488355328 := by rw [List.length_map]; omega
  have H63 := Lib.hid hb63
  have H48 := Lib.hid hb48
  clear hb63 hb48 hx
  go_enter Try.func27, Try.ntmps27
  go_wp2_with fail
  generalize hw1 : w.alloc _ = w1
  have hb1 : Below (w.heap.size + 1) (w.alloc (.cells #[.int .i64 1, .int .i64 n, .string s, .slice p len c] 24)) w1 := by rw [hw1]; exact Below.refl _ _
  have hst1 : WSt w1 b v l := by rw [← hw1]; exact h.alloc _
  have hwr1 : ∀ v' w', Wrote b v w1 v' w' → Wrote b v w v' w' := by rw [← hw1]; exact fun v' w' hh => hh.alloc
  have hz1' : w1.heap.size = w.heap.size + 1 := by rw [← hw1]; simp
  have HZ := Lib.hid hz1'
  obtain ⟨a0, a1, a2, a3⟩ := boxed hb1
  obtain ⟨c0, f0⟩ := hst1.cell
  have hd := hst1.drew
  have hd2 : WSt (w1.alloc (.cells #[.int .u8 (IntKind.u8.wrap 1)] 5)).drew b v l := (hst1.alloc _).drew
  have HO := Lib.hid hd2.own
  have hsc : Src Try.prog 1 27 (.slice (some ⟨w1.heap.size, 0, none⟩) 1 1) 1 [.int .u8 (IntKind.u8.wrap 1)] (w1.alloc (.cells #[.int .u8 (IntKind.u8.wrap 1)] 5)).drew := src_one (by simp) rfl
  have HS := Lib.hid hsc
  clear hsc
  have hbl1 : b < w1.heap.size := by omega
  have hbl2 : w.heap.size < w1.heap.size := by omega
  clear hw1 hb1 h hz1'
  go_region_law (refine step_own rfl (.tmp 8) (.tmp 12) 27 27 rfl 5 i0 (.int .u8 0) 1 Try.underlying27 hi hz0 hz1 hz2 rfl v _ (l.map byt) (by simp [Act.eval, Act.put]) HO.out 1 [.int .u8 (IntKind.u8.wrap 1)] (by simp [Act.eval, Act.put]) HS.out H63.out H48.out ?_; intro v2 w3 hown3 hgrow hnew; obtain ⟨g', cap', n', e', c1, f1, s1, s2⟩ := hd2.after2 (new := [1]) (by simp) hown3 hgrow hnew; subst e')
  all_goals
    have s3 : Wrote b v w (.slice (some ⟨g', 0, none⟩) n' cap') (w3.setCell ⟨b, 0, none⟩ (.slice (some ⟨g', 0, none⟩) n' cap')) := hwr1 _ _ s2.drew.alloc
    obtain ⟨F2, F3, F4⟩ := s1.funcs
    have hne : ∀ e : v.ownBlock = some w.heap.size, False := fun e => by have := hol _ e; omega
    have A0 := s2.cell (k := w.heap.size) (o := 0) (x := .int .i64 1) (by omega) hne (by simpa using (World.cell?_alloc_lt (w := w1) (o := .cells #[.int .u8 (IntKind.u8.wrap 1)] 5) (a := ⟨w.heap.size, 0, none⟩) hbl2).trans a0)
    have A1 := s2.cell (k := w.heap.size) (o := 1) (x := .int .i64 n) (by omega) hne (by simpa using (World.cell?_alloc_lt (w := w1) (o := .cells #[.int .u8 (IntKind.u8.wrap 1)] 5) (a := ⟨w.heap.size, 1, none⟩) hbl2).trans a1)
    have A2 := s2.cell (k := w.heap.size) (o := 2) (x := .string s) (by omega) hne (by simpa using (World.cell?_alloc_lt (w := w1) (o := .cells #[.int .u8 (IntKind.u8.wrap 1)] 5) (a := ⟨w.heap.size, 2, none⟩) hbl2).trans a2)
    have A3 := s2.cell (k := w.heap.size) (o := 3) (x := .slice p len c) (by omega) hne (by simpa using (World.cell?_alloc_lt (w := w1) (o := .cells #[.int .u8 (IntKind.u8.wrap 1)] 5) (a := ⟨w.heap.size, 3, none⟩) hbl2).trans a3)
    generalize (w3.setCell ⟨b, 0, none⟩ (.slice (some ⟨g', 0, none⟩) n' cap')) = W3 at *
    clear a0 a1 a2 a3 c0 f0 hown3 hgrow hnew c1 f1 s2 hwr1 hd hd2 hst1
    go_wp2_with fail
    go_still_tail 9, (by kernel_rfl)
    change wpList _ _ _ _ _ W3.drew
    have s4 : Wrote b v w (.slice (some ⟨g', 0, none⟩) n' cap') W3.drew := ⟨s3.os, s3.tape, s3.output, s3.size, s3.block, s3.own⟩
    have hcc := HC.out _ _ s1.drew s4
    go_wp2_with fail
    refine hcc.mono ?_
    rintro e w5 ⟨rfl, v5, hst5, hwr5⟩
    go_wp2_with fail
    go_end0
    exact ⟨rfl, v5, by rw [List.append_assoc] at hst5; exact hst5, s4.trans hwr5⟩
set_option maxHeartbeats 1000000 in
theorem wval_2 (n : Int) (s : ByteArray) (p : Option Addr) (len c b : Nat) (v : Value) (l new : List UInt8) (w : World) (h : WSt w b v l) (hl : l.length + 1 ≤ 1099511627776)
    (hc : ∀ w' v', WSt w' b v' (l ++ [2]) → Wrote b v w v' w' → Calls Try.prog 41 #[.pointer (some ⟨b, 0, none⟩), val 2 n s (.slice p len c)] w' (Writes b v' (l ++ [2]) new w')) :
    Calls Try.prog 27 #[.pointer (some ⟨b, 0, none⟩), val 2 n s (.slice p len c)] w (Writes b v l (2 :: new) w) := by
  obtain ⟨i0, hi, hz0, hz1, hz2⟩ := info_parts Try.info5
  have HC := Lib.hid hc
  clear hc
  have hbl := h.lt
  have hol := fun k hk => h.own.lt (k := k) hk
  have hx : (Value.int .u8 (IntKind.u8.wrap 2)) = byt 2 := by rw [show IntKind.u8.wrap 2 = 2 from by decide +kernel]; rfl
  have HX := Lib.hid hx
  have hb63 : (l.map byt).length + 1 ≤ maxLen := by rw [List.length_map]; unfold maxLen; omega
  have hb48 : ((l.map byt).length + 1) * 1 ≤ 140737488355328 := by rw [List.length_map]; omega
  have H63 := Lib.hid hb63
  have H48 := Lib.hid hb48
  clear hb63 hb48 hx
  go_enter Try.func27, Try.ntmps27
  go_wp2_with fail
  generalize hw1 : w.alloc _ = w1
  have hb1 : Below (w.heap.size + 1) (w.alloc (.cells #[.int .i64 2, .int .i64 n, .string s, .slice p len c] 24)) w1 := by rw [hw1]; exact Below.refl _ _
  have hst1 : WSt w1 b v l := by rw [← hw1]; exact h.alloc _
  have hwr1 : ∀ v' w', Wrote b v w1 v' w' → Wrote b v w v' w' := by rw [← hw1]; exact fun v' w' hh => hh.alloc
  have hz1' : w1.heap.size = w.heap.size + 1 := by rw [← hw1]; simp
  have HZ := Lib.hid hz1'
  obtain ⟨a0, a1, a2, a3⟩ := boxed hb1
  obtain ⟨c0, f0⟩ := hst1.cell
  have hd := hst1.drew
  have hd2 : WSt (w1.alloc (.cells #[.int .u8 (IntKind.u8.wrap 2)] 5)).drew b v l := (hst1.alloc _).drew
  have HO := Lib.hid hd2.own
  have hsc : Src Try.prog 1 27 (.slice (some ⟨w1.heap.size, 0, none⟩) 1 1) 1 [.int .u8 (IntKind.u8.wrap 2)] (w1.alloc (.cells #[.int .u8 (IntKind.u8.wrap 2)] 5)).drew := src_one (by simp) rfl
  have HS := Lib.hid hsc
  clear hsc
  have hbl1 : b < w1.heap.size := by omega
  have hbl2 : w.heap.size < w1.heap.size := by omega
  clear hw1 hb1 h hz1'
  go_region_law (refine step_own rfl (.tmp 8) (.tmp 12) 27 27 rfl 5 i0 (.int .u8 0) 1 Try.underlying27 hi hz0 hz1 hz2 rfl v _ (l.map byt) (by simp [Act.eval, Act.put]) HO.out 1 [.int .u8 (IntKind.u8.wrap 2)] (by simp [Act.eval, Act.put]) HS.out H63.out H48.out ?_; intro v2 w3 hown3 hgrow hnew; obtain ⟨g', cap', n', e', c1, f1, s1, s2⟩ := hd2.after2 (new := [2]) (by simp) hown3 hgrow hnew; subst e')
  all_goals
    have s3 : Wrote b v w (.slice (some ⟨g', 0, none⟩) n' cap') (w3.setCell ⟨b, 0, none⟩ (.slice (some ⟨g', 0, none⟩) n' cap')) := hwr1 _ _ s2.drew.alloc
    obtain ⟨F2, F3, F4⟩ := s1.funcs
    have hne : ∀ e : v.ownBlock = some w.heap.size, False := fun e => by have := hol _ e; omega
    have A0 := s2.cell (k := w.heap.size) (o := 0) (x := .int .i64 2) (by omega) hne (by simpa using (World.cell?_alloc_lt (w := w1) (o := .cells #[.int .u8 (IntKind.u8.wrap 2)] 5) (a := ⟨w.heap.size, 0, none⟩) hbl2).trans a0)
    have A1 := s2.cell (k := w.heap.size) (o := 1) (x := .int .i64 n) (by omega) hne (by simpa using (World.cell?_alloc_lt (w := w1) (o := .cells #[.int .u8 (IntKind.u8.wrap 2)] 5) (a := ⟨w.heap.size, 1, none⟩) hbl2).trans a1)
    have A2 := s2.cell (k := w.heap.size) (o := 2) (x := .string s) (by omega) hne (by simpa using (World.cell?_alloc_lt (w := w1) (o := .cells #[.int .u8 (IntKind.u8.wrap 2)] 5) (a := ⟨w.heap.size, 2, none⟩) hbl2).trans a2)
    have A3 := s2.cell (k := w.heap.size) (o := 3) (x := .slice p len c) (by omega) hne (by simpa using (World.cell?_alloc_lt (w := w1) (o := .cells #[.int .u8 (IntKind.u8.wrap 2)] 5) (a := ⟨w.heap.size, 3, none⟩) hbl2).trans a3)
    generalize (w3.setCell ⟨b, 0, none⟩ (.slice (some ⟨g', 0, none⟩) n' cap')) = W3 at *
    clear a0 a1 a2 a3 c0 f0 hown3 hgrow hnew c1 f1 s2 hwr1 hd hd2 hst1
    go_wp2_with fail
    go_still_tail 9, (by kernel_rfl)
    change wpList _ _ _ _ _ W3.drew
    have s4 : Wrote b v w (.slice (some ⟨g', 0, none⟩) n' cap') W3.drew := ⟨s3.os, s3.tape, s3.output, s3.size, s3.block, s3.own⟩
    have hcc := HC.out _ _ s1.drew s4
    go_wp2_with fail
    refine hcc.mono ?_
    rintro e w5 ⟨rfl, v5, hst5, hwr5⟩
    go_wp2_with fail
    go_end0
    exact ⟨rfl, v5, by rw [List.append_assoc] at hst5; exact hst5, s4.trans hwr5⟩
set_option maxHeartbeats 1000000 in
theorem wval_3 (n : Int) (s : ByteArray) (p : Option Addr) (len c b : Nat) (v : Value) (l new : List UInt8) (w : World) (h : WSt w b v l) (hl : l.length + 1 ≤ 1099511627776)
    (hc : ∀ w' v', WSt w' b v' (l ++ [3]) → Wrote b v w v' w' → Calls Try.prog 42 #[.pointer (some ⟨b, 0, none⟩), val 3 n s (.slice p len c)] w' (Writes b v' (l ++ [3]) new w')) :
    Calls Try.prog 27 #[.pointer (some ⟨b, 0, none⟩), val 3 n s (.slice p len c)] w (Writes b v l (3 :: new) w) := by
  obtain ⟨i0, hi, hz0, hz1, hz2⟩ := info_parts Try.info5
  have HC := Lib.hid hc
  clear hc
  have hbl := h.lt
  have hol := fun k hk => h.own.lt (k := k) hk
  have hx : (Value.int .u8 (IntKind.u8.wrap 3)) = byt 3 := by rw [show IntKind.u8.wrap 3 = 3 from by decide +kernel]; rfl
  have HX := Lib.hid hx
  have hb63 : (l.map byt).length + 1 ≤ maxLen := by rw [List.length_map]; unfold maxLen; omega
  have hb48 : ((l.map byt).length + 1) * 1 ≤ 140737488355328 := by rw [List.length_map]; omega
  have H63 := Lib.hid hb63
  have H48 := Lib.hid hb48
  clear hb63 hb48 hx
  go_enter Try.func27, Try.ntmps27
  go_wp2_with fail
  generalize hw1 : w.alloc _ = w1
  have hb1 : Below (w.heap.size + 1) (w.alloc (.cells #[.int .i64 3, .int .i64 n, .string s, .slice p len c] 24)) w1 := by rw [hw1]; exact Below.refl _ _
  have hst1 : WSt w1 b v l := by rw [← hw1]; exact h.alloc _
  have hwr1 : ∀ v' w', Wrote b v w1 v' w' → Wrote b v w v' w' := by rw [← hw1]; exact fun v' w' hh => hh.alloc
  have hz1' : w1.heap.size = w.heap.size + 1 := by rw [← hw1]; simp
  have HZ := Lib.hid hz1'
  obtain ⟨a0, a1, a2, a3⟩ := boxed hb1
  obtain ⟨c0, f0⟩ := hst1.cell
  have hd := hst1.drew
  have hd2 : WSt (w1.alloc (.cells #[.int .u8 (IntKind.u8.wrap 3)] 5)).drew b v l := (hst1.alloc _).drew
  have HO := Lib.hid hd2.own
  have hsc : Src Try.prog 1 27 (.slice (some ⟨w1.heap.size, 0, none⟩) 1 1) 1 [.int .u8 (IntKind.u8.wrap 3)] (w1.alloc (.cells #[.int .u8 (IntKind.u8.wrap 3)] 5)).drew := src_one (by simp) rfl
  have HS := Lib.hid hsc
  clear hsc
  have hbl1 : b < w1.heap.size := by omega
  have hbl2 : w.heap.size < w1.heap.size := by omega
  clear hw1 hb1 h hz1'
  go_region_law (refine step_own rfl (.tmp 8) (.tmp 12) 27 27 rfl 5 i0 (.int .u8 0) 1 Try.underlying27 hi hz0 hz1 hz2 rfl v _ (l.map byt) (by simp [Act.eval, Act.put]) HO.out 1 [.int .u8 (IntKind.u8.wrap 3)] (by simp [Act.eval, Act.put]) HS.out H63.out H48.out ?_; intro v2 w3 hown3 hgrow hnew; obtain ⟨g', cap', n', e', c1, f1, s1, s2⟩ := hd2.after2 (new := [3]) (by simp) hown3 hgrow hnew; subst e')
  all_goals
    have s3 : Wrote b v w (.slice (some ⟨g', 0, none⟩) n' cap') (w3.setCell ⟨b, 0, none⟩ (.slice (some ⟨g', 0, none⟩) n' cap')) := hwr1 _ _ s2.drew.alloc
    obtain ⟨F2, F3, F4⟩ := s1.funcs
    have hne : ∀ e : v.ownBlock = some w.heap.size, False := fun e => by have := hol _ e; omega
    have A0 := s2.cell (k := w.heap.size) (o := 0) (x := .int .i64 3) (by omega) hne (by simpa using (World.cell?_alloc_lt (w := w1) (o := .cells #[.int .u8 (IntKind.u8.wrap 3)] 5) (a := ⟨w.heap.size, 0, none⟩) hbl2).trans a0)
    have A1 := s2.cell (k := w.heap.size) (o := 1) (x := .int .i64 n) (by omega) hne (by simpa using (World.cell?_alloc_lt (w := w1) (o := .cells #[.int .u8 (IntKind.u8.wrap 3)] 5) (a := ⟨w.heap.size, 1, none⟩) hbl2).trans a1)
    have A2 := s2.cell (k := w.heap.size) (o := 2) (x := .string s) (by omega) hne (by simpa using (World.cell?_alloc_lt (w := w1) (o := .cells #[.int .u8 (IntKind.u8.wrap 3)] 5) (a := ⟨w.heap.size, 2, none⟩) hbl2).trans a2)
    have A3 := s2.cell (k := w.heap.size) (o := 3) (x := .slice p len c) (by omega) hne (by simpa using (World.cell?_alloc_lt (w := w1) (o := .cells #[.int .u8 (IntKind.u8.wrap 3)] 5) (a := ⟨w.heap.size, 3, none⟩) hbl2).trans a3)
    generalize (w3.setCell ⟨b, 0, none⟩ (.slice (some ⟨g', 0, none⟩) n' cap')) = W3 at *
    clear a0 a1 a2 a3 c0 f0 hown3 hgrow hnew c1 f1 s2 hwr1 hd hd2 hst1
    go_wp2_with fail
    go_still_tail 9, (by kernel_rfl)
    change wpList _ _ _ _ _ W3.drew
    have s4 : Wrote b v w (.slice (some ⟨g', 0, none⟩) n' cap') W3.drew := ⟨s3.os, s3.tape, s3.output, s3.size, s3.block, s3.own⟩
    have hcc := HC.out _ _ s1.drew s4
    go_wp2_with fail
    refine hcc.mono ?_
    rintro e w5 ⟨rfl, v5, hst5, hwr5⟩
    go_wp2_with fail
    go_end0
    exact ⟨rfl, v5, by rw [List.append_assoc] at hst5; exact hst5, s4.trans hwr5⟩
theorem wv_step (k n : Int) (s : ByteArray) (q : F) (hall : q.All WvOK) : WvOK k n s q := by
  intro L w0 w b v l hs hL hb0 hbb hbv h hwf hl
  obtain ⟨p, c, e, hlen⟩ := hL.shape
  have hnl := nlen_le (hdv k n s.size q.len)
  have hl2 : l.length + (1 + nlen (hdv k n s.size q.len) + s.size + F.sz q) ≤ 1099511627776 := hl
  have hlq := F.sz_enc q
  have hwrb : ∀ v' w', Wrote b v w v' w' → Below w0.heap.size w0 w' := fun v' w' hh => hh.below hb0 hb0.size hbb hbv
  have hwro : ∀ v' w', Wrote b v w v' w' → ∀ j, v'.ownBlock = some j → w0.heap.size ≤ j := fun v' w' hh j hj => by
    rcases hh.own j hj with e | e
    · exact hbv j e
    · have := hb0.size; omega
  unfold wfv at hwf
  by_cases h1 : k = 1
  · subst h1
    simp only [if_true, Bool.and_eq_true, beq_iff_eq] at hwf
    have hs0 : s.data.toList = [] := List.eq_nil_of_length_eq_zero (by rw [Array.length_toList]; exact hwf.1)
    have hq0 : q = .nil := by
      cases q with
      | nil => rfl
      | cons => simp [F.len] at hwf
    have he : encv 1 n s q = 1 :: num (hdv 1 n s.size q.len) := by unfold encv; rw [hs0, hq0]; simp [F.enc]
    rw [he, e]
    exact wval_1 n s p q.len c b v l _ w h (by omega) fun w' v' hst hwr => wint_any 1 n s p q.len c b v' (l ++ [1]) w' hs hlen hst (by rw [List.length_append, List.length_singleton]; omega)
  · rw [if_neg h1] at hwf
    by_cases h2 : k = 2
    · subst h2
      simp only [if_true, Bool.and_eq_true, beq_iff_eq] at hwf
      have hq0 : q = .nil := by
        cases q with
        | nil => rfl
        | cons => simp [F.len] at hwf
      have he : encv 2 n s q = 2 :: (num (hdv 2 n s.size q.len) ++ s.data.toList) := by unfold encv; rw [hq0]; simp [F.enc]
      rw [he, e]
      exact wval_2 n s p q.len c b v l _ w h (by omega) fun w' v' hst hwr => wtext_any 2 n s p q.len c b v' (l ++ [2]) w' hs hlen hst (by rw [List.length_append, List.length_singleton]; omega)
    · rw [if_neg h2] at hwf
      by_cases h3 : k = 3
      · subst h3
        simp only [if_true, Bool.and_eq_true, beq_iff_eq] at hwf
        have hs0 : s.data.toList = [] := List.eq_nil_of_length_eq_zero (by rw [Array.length_toList]; exact hwf.2.1)
        have he : encv 3 n s q = 3 :: (num (hdv 3 n s.size q.len) ++ F.enc q) := by unfold encv; rw [hs0]; simp
        have h4 : q.len = 0 ∨ ∃ b' o, p = some ⟨b', o, none⟩ ∧ b' < w0.heap.size ∧ Lies w0 q b' o := by
          rcases hL with ⟨p', c', e', rfl⟩ | ⟨b', o, cap, e', e1, e2, e3, e4⟩
          · exact .inl rfl
          · rw [e] at e'
            simp only [Value.slice.injEq] at e'
            exact .inr ⟨b', o, e'.1, e3, e4⟩
        rw [he, e]
        exact wval_3 n s p q.len c b v l _ w h (by omega) fun w' v' hst hwr => wlist_any 3 n s q p q.len c b v' (l ++ [3]) w0 w' hs hlen rfl hall h4 hwf.2.2 (hwrb _ _ hwr) hbb (hwro _ _ hwr) hst (by rw [List.length_append, List.length_singleton, hlq]; unfold nlen at hl2; omega)
      · rw [if_neg h3] at hwf
        cases hwf
theorem wv_any (k n : Int) (s : ByteArray) (q : F) : WvOK k n s q := (F.all_of wv_step (.cons k n s q .nil)).1
end Go.Proofs.Ytaahmfmelmjahaa
