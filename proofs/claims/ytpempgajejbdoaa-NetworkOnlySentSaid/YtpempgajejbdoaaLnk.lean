/-
  Links: pairs of parties, compared.
-/
import Derived.Test.YtpempgajejbdoaaChk
import Derived.DeepKeys
import Derived.Deep.QuietTactic
import Derived.Sort.Grow
namespace Go.Proofs.Ytpempgajejbdoaa
open Go Go.RowKit Go.Sort
abbrev lkv (x : Lk) : Value := .agg #[.int .i64 x.1, .int .i64 x.2]
def cmpI (a b : Int) : Int := if a < b then -1 else if b < a then 1 else 0
def cmpL (x y : Lk) : Int := if cmpI x.1 y.1 = 0 then cmpI x.2 y.2 else cmpI x.1 y.1
def mkL (a b : Int) : Lk := (min a b, max a b)
theorem part3 (a b : Int) (w : World) : (part 3 #[.int .i64 a, .int .i64 b] 0).run Try.prog w = .ok (.int .i64 a) w ∧ (part 3 #[.int .i64 a, .int .i64 b] 1).run Try.prog w = .ok (.int .i64 b) w := by
  constructor <;> simp [part, isAgg]
theorem cells3' : Try.prog.cellsOf 3 = 1 := by kernel_rfl
theorem info3' : ∃ i, Try.prog.info? 3 = some i := by
  cases h : Try.prog.info? 3 with
  | none => exact absurd (show (Try.prog.info? 3).isSome = true by kernel_rfl) (by rw [h]; simp)
  | some i => exact ⟨i, rfl⟩
/-- two pairs are compared by == -/
theorem lk_equal (a b c d : Int) (w : World) : (Op.equalIn 10000 55 (.agg #[.int .i64 a, .int .i64 b]) (.agg #[.int .i64 c, .int .i64 d])).run Try.prog w = .ok (a == c && b == d) w := by
  obtain ⟨i, hi⟩ := info3'
  rw [run_equalIn_array w 9999 _ _ Try.underlying55 hi, cells3']
  have e1 := run_equalIn_int (P := Try.prog) w 9998 3 .i64 .i64 a c Try.underlying3
  have e2 := run_equalIn_int (P := Try.prog) w 9998 3 .i64 .i64 b d Try.underlying3
  show (Op.eqItems (9998 + 1) 3 1 #[.int .i64 a, .int .i64 b] #[.int .i64 c, .int .i64 d] [0, 1]).run Try.prog w = _
  cases h1 : (a == c)
  · simp [Op.eqItems, (part3 a b w).1, (part3 c d w).1, e1, h1]
  · cases h2 : (b == d) <;> simp [Op.eqItems, (part3 a b w).1, (part3 a b w).2, (part3 c d w).1, (part3 c d w).2, e1, e2, h1, h2]
theorem nan_any (a : Int) (w : World) : Calls Try.prog 68 #[.int .i64 a] w (fun e w' => e = .returned (.bool false) ∧ w' = w) := by
  have h : (a != a) = false := by simp
  go_enter Try.func68, Try.ntmps68
  go_wp2_with fail
  go_ret
  exact ⟨rfl, rfl⟩
theorem cmpi_any (a b : Int) (w : World) : Calls Try.prog 62 #[.int .i64 a, .int .i64 b] w (fun e w' => e = .returned (.int .i64 (cmpI a b)) ∧ w' = w) := by
  have HA := Lib.hid (fun W => nan_any a W)
  have HB := Lib.hid (fun W => nan_any b W)
  have HC : Hid (cmpI a b = if a < b then -1 else if b < a then 1 else 0) := Lib.hid rfl
  by_cases h1 : a < b
  · go_enter Try.func62, Try.ntmps62
    go_wp2_with fail
    refine (HA.out _).mono ?_
    rintro e w' ⟨rfl, rfl⟩
    go_wp2_with fail
    refine (HB.out _).mono ?_
    rintro e w' ⟨rfl, rfl⟩
    go_wp2_with fail
    go_ret
    exact ⟨ret_int (by rw [HC.out, if_pos h1]), rfl⟩
  by_cases h2 : b < a
  all_goals
    go_enter Try.func62, Try.ntmps62
    go_wp2_with fail
    refine (HA.out _).mono ?_
    rintro e w' ⟨rfl, rfl⟩
    go_wp2_with fail
    refine (HB.out _).mono ?_
    rintro e w' ⟨rfl, rfl⟩
    go_wp2_with fail
    go_ret
    exact ⟨ret_int (by rw [HC.out]; first | (rw [if_neg (by omega), if_pos (by omega)]; done) | (rw [if_neg (by omega), if_neg (by omega)])), rfl⟩
set_option maxHeartbeats 1000000 in
/-- slices.Compare of two pairs' numbers -/
theorem cmps_any (x y : Lk) (b1 b2 : Nat) (w : World) (h0 : w.cell? ⟨b1, 0, none⟩ = some (.int .i64 x.1)) (h1 : w.cell? ⟨b1, 1, none⟩ = some (.int .i64 x.2)) (g0 : w.cell? ⟨b2, 0, none⟩ = some (.int .i64 y.1)) (g1 : w.cell? ⟨b2, 1, none⟩ = some (.int .i64 y.2)) :
    Calls Try.prog 49 #[.slice (some ⟨b1, 0, none⟩) 2 2, .slice (some ⟨b2, 0, none⟩) 2 2] w (fun e w' => e = .returned (.int .i64 (cmpL x y)) ∧ w' = w) := by
  obtain ⟨a, b⟩ := x
  obtain ⟨c, d⟩ := y
  simp only at h0 h1 g0 g1
  have H1 := Lib.hid (fun W => cmpi_any a c W)
  have H2 := Lib.hid (fun W => cmpi_any b d W)
  have HC : Hid (cmpL (a, b) (c, d) = if cmpI a c = 0 then cmpI b d else cmpI a c) := Lib.hid rfl
  generalize cmpI a c = r1 at H1 HC
  generalize cmpI b d = r2 at H2 HC
  go_enter Try.func49, Try.ntmps49
  go_wp2_with fail
  go_loopw [11] (fun i wr => wr = w ∧ (i = .int .i64 0 ∨ (i = .int .i64 1 ∧ Hid (r1 = 0)) ∨ (i = .int .i64 2 ∧ Hid (r1 = 0) ∧ Hid (r2 = 0)))) (fun i _ => 2 - (intOf i).toNat)
  case atStart => exact ⟨rfl, .inl rfl⟩
  case round =>
    obtain ⟨rfl, hcase⟩ := hrel
    rcases hcase with rfl | ⟨rfl, HZ⟩ | ⟨rfl, HZ, HZ2⟩
    · go_wp2_with fail
      refine (H1.out _).mono ?_
      rintro e w' ⟨rfl, rfl⟩
      by_cases hz : r1 = 0
      · have HZ := Lib.hid hz
        have hz1 : (r1 != 0) = false := by simp [hz]
        clear hz
        go_wp2_with fail
        go_roundw
        case rel => exact ⟨trivial, .inr (.inl ⟨by go_num, HZ⟩)⟩
        case measure => simp [intOf]
      · have HZ := Lib.hid hz
        have hz1 : (r1 != 0) = true := by simp [hz]
        clear hz
        go_wp2_with fail
        go_ret
        exact ⟨ret_int (by rw [HC.out, if_neg HZ.out]), rfl⟩
    · go_wp2_with fail
      refine (H2.out _).mono ?_
      rintro e w' ⟨rfl, rfl⟩
      by_cases hz : r2 = 0
      · have HZ2 := Lib.hid hz
        have hz1 : (r2 != 0) = false := by simp [hz]
        clear hz
        go_wp2_with fail
        go_roundw
        case rel => exact ⟨trivial, .inr (.inr ⟨by go_num, HZ, HZ2⟩)⟩
        case measure => simp [intOf]
      · have hz1 : (r2 != 0) = true := by simp [hz]
        clear hz
        go_wp2_with fail
        go_ret
        exact ⟨ret_int (by rw [HC.out, if_pos HZ.out]), rfl⟩
    · go_wp2_with fail
      go_ret
      exact ⟨ret_int (by rw [HC.out, if_pos HZ.out, HZ2.out]), rfl⟩
theorem linkOf_any (a b : Int) (w : World) : Calls Try.prog 36 #[.int .i64 a, .int .i64 b] w (fun e w' => e = .returned (lkv (mkL a b)) ∧ ∃ c, w' = w.alloc (.cells c 55)) := by
  have HM : Hid (mkL a b = (min a b, max a b)) := Lib.hid rfl
  rcases Int.lt_trichotomy a b with h | h | h
  · have h1 : a ≤ b := by omega
    have h2 : ¬ b ≤ a := by omega
    have HE : Hid (min a b = a ∧ max a b = b) := Lib.hid (by omega)
    go_enter Try.func36, Try.ntmps36
    go_wp2_with fail
    refine bodyPost_ret (v := .agg #[.int .i64 a, .int .i64 b]) ?_ rfl ⟨by rw [HM.out, HE.out.1, HE.out.2], _, rfl⟩
    simp [results, Try.results36, go_sem]
  · subst h
    have HE : Hid (min a a = a ∧ max a a = a) := Lib.hid (by omega)
    go_enter Try.func36, Try.ntmps36
    go_wp2_with fail
    refine bodyPost_ret (v := .agg #[.int .i64 a, .int .i64 a]) ?_ rfl ⟨by rw [HM.out, HE.out.1, HE.out.2], _, rfl⟩
    simp [results, Try.results36, go_sem]
  · have h1 : b ≤ a := by omega
    have h2 : ¬ a ≤ b := by omega
    have HE : Hid (min a b = b ∧ max a b = a) := Lib.hid (by omega)
    go_enter Try.func36, Try.ntmps36
    go_wp2_with fail
    refine bodyPost_ret (v := .agg #[.int .i64 b, .int .i64 a]) ?_ rfl ⟨by rw [HM.out, HE.out.1, HE.out.2], _, rfl⟩
    simp [results, Try.results36, go_sem]
theorem arr_row (w : World) (x y c d : Value) (T T' : TypeId) : ((w.alloc (.cells #[x, y] T)).alloc (.cells #[c, d] T')).cell? ⟨w.heap.size + 1, 0, none⟩ = some c ∧ ((w.alloc (.cells #[x, y] T)).alloc (.cells #[c, d] T')).cell? ⟨w.heap.size + 1, 1, none⟩ = some d ∧
    ((w.alloc (.cells #[x, y] T)).alloc (.cells #[c, d] T')).cell? ⟨w.heap.size, 0, none⟩ = some x ∧ ((w.alloc (.cells #[x, y] T)).alloc (.cells #[c, d] T')).cell? ⟨w.heap.size, 1, none⟩ = some y := by
  have h1 : ((w.alloc (.cells #[x, y] T)).alloc (.cells #[c, d] T')).heap[w.heap.size + 1]? = some (.cells #[c, d] T') := by
    have := heap_alloc_new (w.alloc (.cells #[x, y] T)) (.cells #[c, d] T')
    rwa [World.size_alloc] at this
  have h2 : ((w.alloc (.cells #[x, y] T)).alloc (.cells #[c, d] T')).heap[w.heap.size]? = some (.cells #[x, y] T) :=
    (heap_alloc_old (w.alloc (.cells #[x, y] T)) _ (by simp)).trans (heap_alloc_new w _)
  exact ⟨by unfold World.cell?; simp only [h1]; rfl, by unfold World.cell?; simp only [h1]; rfl, by unfold World.cell?; simp only [h2]; rfl, by unfold World.cell?; simp only [h2]; rfl⟩
set_option maxHeartbeats 1000000 in
theorem cmpl_any (x y : Lk) (w : World) : Calls Try.prog 38 #[lkv x, lkv y] w (fun e w' => e = .returned (.int .i64 (cmpL x y)) ∧ ∃ q os', w' = grow (w.drewN q) os') := by
  obtain ⟨a, b⟩ := x
  obtain ⟨c, d⟩ := y
  obtain ⟨t0, t1, t2, t3⟩ := arr_row w (.int .i64 a) (.int .i64 b) (.int .i64 c) (.int .i64 d) 55 55
  have hW : ((w.alloc (.cells #[.int .i64 a, .int .i64 b] 55)).alloc (.cells #[.int .i64 c, .int .i64 d] 55)) = grow (w.drewN 0) (#[.cells #[.int .i64 a, .int .i64 b] 55] ++ #[.cells #[.int .i64 c, .int .i64 d] 55]) := by
    rw [alloc_eq_grow, alloc_eq_grow, grow_grow]
    rfl
  go_enter Try.func38, Try.ntmps38
  have HW := Lib.hid hW
  clear hW
  go_wp2_with fail
  generalize ((w.alloc (.cells #[.int .i64 a, .int .i64 b] 55)).alloc (.cells #[.int .i64 c, .int .i64 d] 55)) = W at *
  have HC := Lib.hid (fun n => cmps_any (a, b) (c, d) w.heap.size (w.heap.size + 1) (W.drewN n) t2 t3 t0 t1)
  clear t0 t1 t2 t3
  go_quiet ((go_at_call 49; exact Calls.quiet_of_same (HC.out _)))
  go_wp2_with fail
  go_ret
  exact ⟨rfl, nq, _, by rw [HW.out]; rfl⟩
end Go.Proofs.Ytpempgajejbdoaa
