/-
  Links: which lists of packets and pairs are valid, by the program and by the reference.
-/
import Derived.Test.YtpempgajejbdoaaLnk
import Derived.BigQuiet
namespace Go.Proofs.Ytpempgajejbdoaa
open Go Go.RowKit Go.Sort
variable {F : Nat → Prop}
def lkB (x : Lk) : Bool := (siteB x.1 && siteB x.2) && decide (x.1 < x.2)
def ltL (x y : Lk) : Bool := decide (x.1 < y.1 ∨ x.1 = y.1 ∧ x.2 < y.2)
def incA : List Lk → Bool
  | x :: y :: r => ltL x y && incA (y :: r)
  | _ => true
def okA (a : List Lk) : Bool := a.all lkB && incA a
theorem incA_iff : ∀ a : List Lk, incA a = true ↔ ∀ i x y, a[i]? = some x → a[i + 1]? = some y → ltL x y = true
  | [] => ⟨fun _ i x y h => by simp at h, fun _ => rfl⟩
  | [z] => ⟨fun _ i x y _ h => by simp at h, fun _ => rfl⟩
  | z :: z' :: r => by
    have ih := incA_iff (z' :: r)
    unfold incA
    rw [Bool.and_eq_true, ih]
    constructor
    · rintro ⟨h1, h2⟩ i x y hx hy
      cases i with
      | zero => simp at hx hy; subst hx hy; exact h1
      | succ i => exact h2 i x y (by simpa using hx) (by simpa using hy)
    · exact fun h => ⟨h 0 z z' rfl rfl, fun i x y hx hy => h (i + 1) x y (by simpa using hx) (by simpa using hy)⟩
/-- the first k pairs are valid and in order -/
def OkUp (a : List Lk) (k : Nat) : Prop := (∀ (i : Nat) x, i < k → a[i]? = some x → lkB x = true) ∧ ∀ (i : Nat) x y, i + 1 < k → a[i]? = some x → a[i + 1]? = some y → ltL x y = true
theorem okUp_zero (a : List Lk) : OkUp a 0 := ⟨fun i x h => by omega, fun i x y h => by omega⟩
theorem OkUp.first {a : List Lk} {x : Lk} (hx : a[0]? = some x) (hl : lkB x = true) : OkUp a 1 :=
  ⟨fun i z hi hz => by obtain rfl : i = 0 := (by omega); rw [hx] at hz; cases hz; exact hl, fun i x y h => by omega⟩
theorem OkUp.step {a : List Lk} {k : Nat} {x y : Lk} (h : OkUp a (k + 1)) (hy : a[k]? = some y) (hx : a[k + 1]? = some x) (hl : lkB x = true) (hlt : ltL y x = true) : OkUp a (k + 2) := by
  refine ⟨fun i z hi hz => ?_, fun i u v hi hu hv => ?_⟩
  · by_cases e : i = k + 1
    · subst e; rw [hx] at hz; cases hz; exact hl
    · exact h.1 i z (by omega) hz
  · by_cases e : i = k
    · subst e; rw [hy] at hu; rw [hx] at hv; cases hu; cases hv; exact hlt
    · exact h.2 i u v (by omega) hu hv
theorem OkUp.full {a : List Lk} {k : Nat} (h : OkUp a k) (hk : a.length = k) : okA a = true := by
  unfold okA
  rw [Bool.and_eq_true, incA_iff, List.all_eq_true]
  refine ⟨fun x hx => ?_, fun i x y hx hy => h.2 i x y ?_ hx hy⟩
  · obtain ⟨i, hi, e⟩ := List.mem_iff_getElem.1 hx
    exact h.1 i x (by omega) (by rw [List.getElem?_eq_getElem hi, e])
  · have := (List.getElem?_eq_some_iff.1 hy).1
    omega
theorem okA_bad1 {a : List Lk} {k : Nat} {x : Lk} (hx : a[k]? = some x) (h : lkB x = false) : okA a = false := by
  unfold okA
  rw [List.all_eq_false.2 ⟨x, List.mem_of_getElem? hx, by simp [h]⟩, Bool.false_and]
theorem okA_bad2 {a : List Lk} {k : Nat} {x y : Lk} (hy : a[k]? = some y) (hx : a[k + 1]? = some x) (h : ltL y x = false) : okA a = false := by
  unfold okA
  have : incA a = false := by
    cases hi : incA a with
    | false => rfl
    | true => rw [(incA_iff a).1 hi k y x hy hx] at h; cases h
  rw [this, Bool.and_false]
theorem lkB_ends (a b : Int) : lkB (a, b) = (endsB a b && ((a == (mkL a b).1) && (b == (mkL a b).2))) := by
  unfold lkB endsB mkL
  by_cases h : a < b
  · have e1 : min a b = a := by omega
    have e2 : max a b = b := by omega
    have h3 : a ≠ b := by omega
    simp [e1, e2, h, h3]
  · by_cases h2 : a = b
    · simp [h2]
    · have e1 : min a b = b := by omega
      have h3 : ¬ a = b := by omega
      simp [e1, h, h3]
theorem ltL_cmp (x y : Lk) : ltL x y = decide (cmpL x y < 0) := by
  unfold ltL cmpL cmpI
  obtain ⟨a, b⟩ := x
  obtain ⟨c, d⟩ := y
  simp only
  by_cases h1 : a < c
  · simp [h1]
  · by_cases h2 : c < a
    · simp [h1, h2]; omega
    · have : a = c := by omega
      subst this
      by_cases h3 : b < d
      · simp [h3]
      · by_cases h4 : d < b <;> simp [h3, h4]
theorem vqueue_any (v : Value) (q : List Pk) (w : World) (h : QV F w v q) : Calls Try.prog 31 #[v] w (Ret (.bool (decide (q.length ≤ 4096) && q.all pkB)) w) := by
  obtain ⟨pq, cq, rfl, h1, h2, _⟩ := h.shape
  unfold maxLen at h2
  obtain ⟨N, hN⟩ : ∃ N, q.length = N := ⟨_, rfl⟩
  rw [hN] at h h1 ⊢
  have HQ := Lib.hid h
  have HN := Lib.hid hN
  clear h hN
  by_cases h3 : 4096 < N
  · have hd : decide (N ≤ 4096) = false := by simp; omega
    go_enter Try.func31, Try.ntmps31
    go_wp2_with fail
    go_ret
    exact ⟨ret_bool (by rw [hd, Bool.false_and]), Below.refl _ _⟩
  go_enter Try.func31, Try.ntmps31
  go_wp2_with fail
  go_loopw [10] (fun i wr => ∃ k : Nat, k ≤ N ∧ i = .int .i64 k ∧ Hid ((q.take k).all pkB = true) ∧ Below w.heap.size w wr) (fun i _ => N - (intOf i).toNat)
  case atStart => exact ⟨0, Nat.zero_le _, rfl, Lib.hid (by simp), Below.refl _ _⟩
  case round =>
    obtain ⟨k, hk, rfl, HA, hb⟩ := hrel
    by_cases hlt : k < N
    · obtain ⟨b, o, f, t, pu, L, cu, l, rfl, hbl, g0, g1, g2, HL, hu1, hu2, HW⟩ := (HQ.out.below hb).pkAt k (by rw [HN.out]; omega)
      have HV : Hid (∀ w', Below wr.heap.size wr w' → Calls Try.prog 28 #[.agg #[.int .i64 f, .int .i64 t, .slice pu L cu]] w' (Ret (.bool (pkB (f, t, l))) w')) :=
        Lib.hid fun w' hb' => vpacket_any _ (f, t, l) w' (PKV.below ⟨_, rfl, HW.out.1, HW.out.2, HL.out.2.2⟩ hb')
      have HP : Hid (q[k]? = some (f, t, l)) := Lib.hid HL.out.1
      have HB := Lib.hid hb
      clear hb HL
      cases hv : pkB (f, t, l)
      all_goals
        rw [hv] at HV
        have HVV := Lib.hid hv
        clear hv
        go_wp2_with (go_at_call 28; refine (HV.out _ (one_new _ _)).mono ?_; rintro e w1 ⟨rfl, hb3⟩; have HB3 := Lib.hid (HB.out.trans ((one_later hb3).mono HB.out.size)); clear hb3)
      · go_ret
        exact ⟨ret_bool (by rw [List.all_eq_false.2 ⟨_, List.mem_of_getElem? HP.out, by rw [HVV.out]; simp⟩, Bool.and_false]), HB3.out⟩
      · go_roundw
        case rel => exact ⟨k + 1, by omega, by go_num, Lib.hid (by rw [List.take_add_one, HP.out, List.all_append, HA.out]; simp [HVV.out]), HB3.out⟩
        case measure => simp [intOf]; omega
    · go_wp2_with fail
      go_ret
      have hkN : k = N := by omega
      refine ⟨ret_bool ?_, hb⟩
      have := HA.out
      rw [List.take_of_length_le (by rw [HN.out]; omega)] at this
      rw [this]
      simp; omega
end Go.Proofs.Ytpempgajejbdoaa
