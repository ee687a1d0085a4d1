/-
  Links: the pairs that are cut, as lists: two ways to make them give one list.
-/
import Derived.Test.YtpempgajejbdoaaSrt
import Derived.Test.YtpempgajejbdoaaIsc
import Derived.Test.YtpempgajejbdoaaChn
namespace Go.Proofs.Ytpempgajejbdoaa
open Go Go.RowKit Go.Shelf Go.Sort
def LT (x y : Lk) : Prop := ltL x y = true
theorem LT.irr {x : Lk} (h : LT x x) : False := by unfold LT ltL at h; simp at h
theorem LT.trans {x y z : Lk} (h : LT x y) (k : LT y z) : LT x z := by unfold LT ltL at *; simp at *; omega
theorem incA_pair : ∀ {s : List Lk}, incA s = true → s.Pairwise LT
  | [], _ => .nil
  | [x], _ => by simp
  | x :: y :: r, h => by
    unfold incA at h
    rw [Bool.and_eq_true] at h
    have ih := incA_pair h.2
    refine .cons (fun z hz => ?_) ih
    rcases List.mem_cons.1 hz with rfl | hz
    · exact h.1
    · exact LT.trans h.1 ((List.pairwise_cons.1 ih).1 z hz)
theorem lt_unique : ∀ {a b : List Lk}, a.Pairwise LT → b.Pairwise LT → (∀ x, x ∈ a ↔ x ∈ b) → a = b
  | [], [], _, _, _ => rfl
  | [], y :: b, _, _, h => absurd ((h y).2 (by simp)) (by simp)
  | x :: a, [], _, _, h => absurd ((h x).1 (by simp)) (by simp)
  | x :: a, y :: b, ha, hb, h => by
    obtain ⟨ha1, ha2⟩ := List.pairwise_cons.1 ha
    obtain ⟨hb1, hb2⟩ := List.pairwise_cons.1 hb
    have hxy : x = y := by
      rcases List.mem_cons.1 ((h x).1 (by simp)) with e | e
      · exact e
      · rcases List.mem_cons.1 ((h y).2 (by simp)) with e' | e'
        · exact e'.symm
        · exact (LT.irr ((hb1 x e).trans (ha1 y e'))).elim
    subst hxy
    rw [lt_unique ha2 hb2 (fun z => ⟨fun hz => ?_, fun hz => ?_⟩)]
    · rcases List.mem_cons.1 ((h z).1 (List.mem_cons_of_mem _ hz)) with e | e
      · subst e; exact (LT.irr (ha1 z hz)).elim
      · exact e
    · rcases List.mem_cons.1 ((h z).2 (List.mem_cons_of_mem _ hz)) with e | e
      · subst e; exact (LT.irr (hb1 z hz)).elim
      · exact e
/-- the pairs of x with greater numbers below y -/
def row (x y : Nat) : List Lk := (List.range (y - (x + 1))).map fun i => ((x : Int), ((x + 1 + i : Nat) : Int))
def rows (x : Nat) : List Lk := (List.range x).flatMap fun i => row i 24
theorem row_zero (x : Nat) : row x (x + 1) = [] := by simp [row]
theorem row_succ {x y : Nat} (h : x + 1 ≤ y) : row x (y + 1) = row x y ++ [((x : Int), (y : Int))] := by
  unfold row
  rw [show y + 1 - (x + 1) = (y - (x + 1)) + 1 by omega, List.range_succ, List.map_append]
  have : x + 1 + (y - (x + 1)) = y := by omega
  simp only [List.map_cons, List.map_nil, this]
theorem rows_succ (x : Nat) : rows (x + 1) = rows x ++ row x 24 := by
  unfold rows
  rw [List.range_succ, List.flatMap_append]
  simp
theorem rows_inc : incA (rows 24) = true := by kernel_rfl
theorem mem_rows {p : Lk} : p ∈ rows 24 ↔ lkB p = true := by
  obtain ⟨a, b⟩ := p
  unfold rows row lkB siteB
  simp only [List.mem_flatMap, List.mem_range, List.mem_map, Prod.mk.injEq, Bool.and_eq_true, decide_eq_true_eq]
  constructor
  · rintro ⟨i, hi, j, hj, rfl, rfl⟩
    omega
  · rintro ⟨⟨⟨h1, h2⟩, h3, h4⟩, h5⟩
    exact ⟨a.toNat, by omega, b.toNat - (a.toNat + 1), by omega, by omega, by omega⟩
/-- is the pair p apart, when l is cut or mended? -/
def flag (s : List Lk) (l : Lk) (on : Bool) (p : Lk) : Bool := if p = l then on else decide (p ∈ s)
def scn (s : List Lk) (l : Lk) (on : Bool) : List Lk := (rows 24).filter (flag s l on)
def cutL (s : List Lk) (l : Lk) (on : Bool) : List Lk := if on = true then srt (but s l ++ [l]) else but s l
theorem mem_but {s : List Lk} {l z : Lk} : z ∈ but s l ↔ z ∈ s ∧ z ≠ l := by
  unfold but
  rw [List.mem_filter]
  obtain ⟨a, b⟩ := z
  obtain ⟨c, d⟩ := l
  by_cases h1 : a = c <;> by_cases h2 : b = d <;> simp [h1, h2]
theorem mem_srt {s : List Lk} {z : Lk} : z ∈ srt s ↔ z ∈ s := (List.mergeSort_perm s _).mem_iff
theorem mem_cutL {s : List Lk} {l z : Lk} {on : Bool} : z ∈ cutL s l on ↔ flag s l on z = true := by
  unfold cutL flag
  cases on
  · simp [mem_but]
    by_cases h : z = l <;> simp [h]
  · simp [mem_srt, mem_but]
    by_cases h : z = l <;> simp [h]
theorem okA_pair {s : List Lk} (h : okA s = true) : s.Pairwise LT := by
  unfold okA at h
  rw [Bool.and_eq_true] at h
  exact incA_pair h.2
theorem okA_mem {s : List Lk} (h : okA s = true) {z : Lk} (hz : z ∈ s) : lkB z = true := by
  unfold okA at h
  rw [Bool.and_eq_true] at h
  exact List.all_eq_true.1 h.1 z hz
theorem but_pair {s : List Lk} (l : Lk) (h : s.Pairwise LT) : (but s l).Pairwise LT := h.filter _
theorem srt_pair {s : List Lk} (h : s.Nodup) : (srt s).Pairwise LT := by
  have h1 : (srt s).Pairwise fun x y => (!(ltOf cmpL) y x) = true := List.pairwise_mergeSort (fun a b c hab hbc => by
      simp only [Bool.not_eq_true'] at *
      exact swoL.ntrans c b a hbc hab) (fun a b => by
      rw [ltOf_cmp, ltOf_cmp]
      unfold ltL
      simp
      omega) s
  have h2 : (srt s).Nodup := (List.mergeSort_perm s _).nodup_iff.2 h
  refine (h1.and h2).imp fun {x y} h => ?_
  have h3 : ltOf cmpL y x = false := by simpa using h.1
  unfold LT
  rw [← ltOf_cmp]
  cases h4 : ltOf cmpL x y with
  | true => rfl
  | false => exact absurd (totL x y h4 h3) h.2
theorem pair_nodup {s : List Lk} (h : s.Pairwise LT) : s.Nodup := h.imp fun {a b} hab e => by subst e; exact LT.irr hab
theorem cutL_pair {s : List Lk} (l : Lk) (on : Bool) (h : okA s = true) : (cutL s l on).Pairwise LT := by
  unfold cutL
  cases on
  · exact but_pair l (okA_pair h)
  · rw [if_pos rfl]
    refine srt_pair (List.nodup_append.2 ⟨pair_nodup (but_pair l (okA_pair h)), by simp, fun a ha b hb e => ?_⟩)
    simp at hb
    subst hb e
    exact (mem_but.1 ha).2 rfl
theorem cutL_scn {s : List Lk} {l : Lk} (on : Bool) (h : okA s = true) (hl : lkB l = true) : cutL s l on = scn s l on := by
  refine lt_unique (cutL_pair l on h) ((incA_pair rows_inc).filter _) fun x => ?_
  rw [mem_cutL]
  unfold scn
  rw [List.mem_filter, mem_rows]
  refine ⟨fun hx => ⟨?_, hx⟩, fun hx => hx.2⟩
  unfold flag at hx
  split at hx
  · rename_i e; rw [e]; exact hl
  · exact okA_mem h (by simpa using hx)
theorem pair_inc : ∀ {s : List Lk}, s.Pairwise LT → incA s = true
  | [], _ => rfl
  | [x], _ => rfl
  | x :: y :: r, h => by
    unfold incA
    obtain ⟨h1, h2⟩ := List.pairwise_cons.1 h
    rw [Bool.and_eq_true]
    exact ⟨h1 y (by simp), pair_inc h2⟩
theorem cutL_ok {s : List Lk} {l : Lk} (on : Bool) (h : okA s = true) (hl : lkB l = true) : okA (cutL s l on) = true := by
  unfold okA
  rw [Bool.and_eq_true]
  refine ⟨List.all_eq_true.2 fun z hz => ?_, pair_inc (cutL_pair l on h)⟩
  rw [cutL_scn on h hl] at hz
  exact mem_rows.1 (List.mem_filter.1 hz).1
/-- a valid list is short -/
theorem okA_len {s : List Lk} (h : okA s = true) : s.length ≤ 576 := by
  have key : ∀ (s : List Lk) (m : Int), s.Pairwise LT → (∀ z ∈ s, lkB z = true ∧ m ≤ z.1 * 24 + z.2) → (s.length : Int) + m ≤ 576 + (if s = [] then m else 0) := by
    intro s
    induction s with
    | nil => intro m _ _; simp; omega
    | cons z r ih =>
      intro m hp hm
      obtain ⟨h1, h2⟩ := List.pairwise_cons.1 hp
      have hz := hm z (by simp)
      have hlk := hz.1
      unfold lkB siteB at hlk
      simp only [Bool.and_eq_true, decide_eq_true_eq] at hlk
      cases r with
      | nil => simp; omega
      | cons y q =>
        have := ih (m + 1) h2 (fun u hu => ⟨(hm u (List.mem_cons_of_mem _ hu)).1, by
          have hlt := h1 u hu
          have hu2 := (hm u (List.mem_cons_of_mem _ hu)).1
          unfold LT ltL at hlt
          unfold lkB siteB at hu2
          simp only [Bool.and_eq_true, decide_eq_true_eq] at hlt hu2
          omega⟩)
        simp at this ⊢
        omega
  have := key s 0 (okA_pair h) (fun z hz => ⟨okA_mem h hz, by
    have := okA_mem h hz
    unfold lkB siteB at this
    simp only [Bool.and_eq_true, decide_eq_true_eq] at this
    omega⟩)
  split at this <;> omega
theorem mk_ok {a b : Int} (h : endsB a b = true) : lkB (mkL a b) = true := by
  unfold endsB siteB at h
  unfold lkB siteB mkL
  simp only [Bool.and_eq_true, decide_eq_true_eq] at *
  omega
def cutE (n : Nt) (a b : Int) : Int := if okN n = true then (if endsB a b = true then 0 else 1) else 60
def cutN (n : Nt) (a b : Int) (on : Bool) : Nt := if okN n = true ∧ endsB a b = true then ⟨n.q, cutL n.a (mkL a b) on⟩ else zero
theorem okN_a {n : Nt} (h : okN n = true) : okA n.a = true := by
  unfold okN at h
  rw [Bool.and_eq_true] at h
  exact h.2
end Go.Proofs.Ytpempgajejbdoaa
