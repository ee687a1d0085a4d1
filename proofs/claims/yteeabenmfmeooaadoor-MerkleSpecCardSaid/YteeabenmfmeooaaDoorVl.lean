/-
  Slices that are only read, as their cells; append to a slice without room.
-/
import Derived.Test.YteeabenmfmeooaaDoorOwnN
import Derived.Deep.RegionLaw
namespace Go.Proofs
open Go Go.RowKit
/-- the slice of m elements of sz cells has these cells -/
def VL (sz : Nat) (w : World) (v : Value) (m : Nat) (xs : List Value) : Prop := ∃ (p : Option Addr) (c : Nat), v = .slice p m c ∧ m ≤ c ∧ c ≤ maxLen ∧ (p = none → c = 0) ∧ xs.length = m * sz ∧ (∀ u ∈ xs, u.oneCell' = true) ∧
  (m = 0 ∨ ∃ b o, p = some ⟨b, o, none⟩ ∧ b < w.heap.size ∧ ∀ (j : Nat) (u : Value), xs[j]? = some u → w.cell? ⟨b, o + j, none⟩ = some u)
theorem VL.below {sz : Nat} {w w' : World} {v : Value} {m : Nat} {xs : List Value} (h : VL sz w v m xs) (hb : Below w.heap.size w w') : VL sz w' v m xs := by
  obtain ⟨p, c, e, h1, h2, h3, h4, h5, h6⟩ := h
  refine ⟨p, c, e, h1, h2, h3, h4, h5, ?_⟩
  rcases h6 with h6 | ⟨b, o, e, hlt, hc⟩
  · exact .inl h6
  · exact .inr ⟨b, o, e, Nat.lt_of_lt_of_le hlt hb.size, fun j u hj => (hb.cell (p := ⟨b, o + j, none⟩) hlt).trans (hc j u hj)⟩
section
variable {P : Program}
theorem VL.src {sz : Nat} {w : World} {v : Value} {m : Nat} {xs : List Value} (h : VL sz w v m xs) {t e : TypeId} (ht : P.underlying t = some (.slice e)) : Src P sz t v m xs w := by
  obtain ⟨p, c, rfl, h1, h2, h3, h4, h5, h6⟩ := h
  rcases p with _ | a
  · obtain rfl := h3 rfl
    obtain rfl : m = 0 := by omega
    obtain rfl : xs = [] := List.eq_nil_of_length_eq_zero (by simpa using h4)
    exact Src.ofNil w ht 0
  · refine Src.ofSlice w ht a m c xs h4 (fun j u hj => ?_) h5
    rcases h6 with rfl | ⟨b, o, e, hlt, hc⟩
    · obtain rfl : xs = [] := List.eq_nil_of_length_eq_zero (by simpa using h4)
      simp at hj
    · cases e
      simpa [Addr.add_lit] using hc j u hj
/-- what append to a slice without room gives: the slice itself, or a new one -/
def Fresh (sz : Nat) (w w' : World) (v v' : Value) (n m : Nat) (zs : List Value) : Prop := (m = 0 ∧ v' = v) ∨ ∃ g cap, v' = .slice (some ⟨g, 0, none⟩) (n + m) cap ∧ w.heap.size ≤ g ∧ OwnB sz w' g cap (n + m) zs
theorem full_append {sz n : Nat} {w : World} {p : Option Addr} {xs : List Value} (h : VL sz w (.slice p n n) n xs) (t tx ty e : TypeId) (i : TypeInfo) (z : Value) (bytes : Nat) (ht : P.underlying t = some (.slice e)) (hi : P.info? e = some i) (hz : i.zero = some z)
    (hsize : i.size = sz) (hby : i.bytes = bytes) (hzs : z.cells.size = sz) (x : Value) (m : Nat) (news : List Value) (hs : Src P sz tx x m news w) (h63 : n + m ≤ maxLen) (hb : (n + m) * bytes ≤ 140737488355328) :
    ∃ v' w', (Builtin.append_ #[t, tx] ty #[.slice p n n, x]).run P w = .ok v' w' ∧ Fresh sz w w' (.slice p n n) v' n m (xs ++ news) ∧ w.grownBy w' none := by
  have hnl : news.length = m * sz := hs.newsLen
  have hsmall : ((n + m : Nat) : Int) ≤ 9223372036854775807 := by simp only [maxLen] at h63; omega
  subst hby
  by_cases hm : m = 0
  · subst hm
    exact ⟨_, w, run_append_nothing (P := P) w t tx ty e i ht hi p n n (Nat.le_refl _) x (by rw [hsize]; have : news = [] := List.eq_nil_of_length_eq_zero (by simpa using hnl); rw [this] at hs; exact hs), .inl ⟨rfl, rfl⟩, rfl, rfl, rfl, Nat.le_refl _, fun _ _ _ => rfl⟩
  obtain ⟨p', c', e', h1, h2, h3, h4, h5, h6⟩ := h
  cases e'
  have hold : (Builtin.firstCells i.size n (.slice p n n)).run P w.drew = .ok xs.toArray w.drew := by
    rcases p with _ | a
    · obtain rfl := h3 rfl
      obtain rfl : xs = [] := List.eq_nil_of_length_eq_zero (by simpa using h4)
      exact run_firstCells_none w.drew i.size 0 0 0
    · refine run_firstCells_some w.drew i.size n a n n xs (by rw [hsize]; exact h4) (fun j u hu => ?_)
      rcases h6 with rfl | ⟨b, o, e, hlt, hc⟩
      · obtain rfl : xs = [] := List.eq_nil_of_length_eq_zero (by simpa using h4)
        simp at hu
      · cases e
        simpa [Addr.add_lit] using hc j u hu
  have hr := run_append_grow_src (P := P) w t tx ty e i z ht hi hz p n n xs hold x m news (by rw [hsize]; exact hs) (by omega) hsmall (growslice_fits (by omega) hb)
  have ho := ownN_grown (w := w) xs news z e n m h4 hnl hzs h63
  refine ⟨_, _, hr, .inr ?_, rfl, rfl, rfl, by simp, fun k hk _ => heap_alloc_old w.drew _ hk⟩
  rcases ho with ⟨hx, _⟩ | ⟨g, cap, hx, ho⟩
  · cases hx
  · cases hx
    exact ⟨_, _, rfl, Nat.le_refl _, ho⟩
theorem wp_full {sz n : Nat} {o : Oper} {a : Act} {w : World} {K : Act → World → Prop} {Q : Exit → Act → World → Prop} (s x : Operand) (t tx : TypeId) (ho : o.op = .call { callee := .builtin .append, args := #[s, x], argTypes := #[t, tx] })
    (e : TypeId) (i : TypeInfo) (z : Value) (bytes : Nat) (ht : P.underlying t = some (.slice e)) (hi : P.info? e = some i) (hz : i.zero = some z) (hsize : i.size = sz) (hby : i.bytes = bytes) (hzs : z.cells.size = sz)
    (p : Option Addr) (xv : Value) (xs : List Value) (hs : a.eval s = .slice p n n) (hown : VL sz w (.slice p n n) n xs) (m : Nat) (news : List Value) (hx : a.eval x = xv) (hsrc : Src P sz tx xv m news w)
    (h63 : n + m ≤ maxLen) (hbytes : (n + m) * bytes ≤ 140737488355328)
    (h : ∀ v' w', Fresh sz w w' (.slice p n n) v' n m (xs ++ news) → w.grownBy w' none → K (a.put o.dst v') w') : o.wp P a w K Q := by
  obtain ⟨v', w', hr, h2, h3⟩ := full_append (P := P) hown t tx o.type e i z bytes ht hi hz hsize hby hzs xv m news hsrc h63 hbytes
  unfold Oper.wp execOp
  simp only [ho, resolve, invoke, builtin, Sem.run_bind, Sem.run_pure, Result.andThen_ok, List.map_toArray, List.map_cons, List.map_nil, hs, hx, hr]
  exact h v' w' h2 h3
theorem wpList_full {sz n : Nat} {ops : Array Oper} {rest : List Oper} {o : Oper} {a : Act} {w : World} {Q : Exit → Act → World → Prop} (hgd : o.guard = none) (s x : Operand) (t tx : TypeId) (ho : o.op = .call { callee := .builtin .append, args := #[s, x], argTypes := #[t, tx] })
    (e : TypeId) (i : TypeInfo) (z : Value) (bytes : Nat) (ht : P.underlying t = some (.slice e)) (hi : P.info? e = some i) (hz : i.zero = some z) (hsize : i.size = sz) (hby : i.bytes = bytes) (hzs : z.cells.size = sz)
    (p : Option Addr) (xv : Value) (xs : List Value) (hs : a.eval s = .slice p n n) (hown : VL sz w (.slice p n n) n xs) (m : Nat) (news : List Value) (hx : a.eval x = xv) (hsrc : Src P sz tx xv m news w)
    (h63 : n + m ≤ maxLen) (hbytes : (n + m) * bytes ≤ 140737488355328)
    (h : ∀ v' w', Fresh sz w w' (.slice p n n) v' n m (xs ++ news) → w.grownBy w' none → wpList P ops Q rest (a.put o.dst v') w') : wpList P ops Q (o :: rest) a w :=
  wpList_plain hgd fun _ hK => wp_full s x t tx ho e i z bytes ht hi hz hsize hby hzs p xv xs hs hown m news hx hsrc h63 hbytes fun v' w' h2 h3 => hK _ _ (h v' w' h2 h3)
theorem step_full {sz n : Nat} {ops : Array Oper} {o : Oper} {a : Act} {w : World} {K : Act → World → Prop} {Q : Exit → Act → World → Prop} {E : Prop} (hgd : o.guard = none) (s x : Operand) (t tx : TypeId) (ho : o.op = .call { callee := .builtin .append, args := #[s, x], argTypes := #[t, tx] })
    (e : TypeId) (i : TypeInfo) (z : Value) (bytes : Nat) (ht : P.underlying t = some (.slice e)) (hi : P.info? e = some i) (hz : i.zero = some z) (hsize : i.size = sz) (hby : i.bytes = bytes) (hzs : z.cells.size = sz)
    (p : Option Addr) (xv : Value) (xs : List Value) (hs : a.eval s = .slice p n n) (hown : VL sz w (.slice p n n) n xs) (m : Nat) (news : List Value) (hx : a.eval x = xv) (hsrc : Src P sz tx xv m news w)
    (h63 : n + m ≤ maxLen) (hbytes : (n + m) * bytes ≤ 140737488355328)
    (h : ∀ v' w', Fresh sz w w' (.slice p n n) v' n m (xs ++ news) → w.grownBy w' none → K (a.put o.dst v') w') :
    if Region.wanted o (yielded ops a.tmps) = true then Oper.wp P o a w K Q else E := by
  have hw : Region.wanted o (yielded ops a.tmps) = true := by simp [Region.wanted, hgd]
  rw [if_pos hw]
  exact wp_full s x t tx ho e i z bytes ht hi hz hsize hby hzs p xv xs hs hown m news hx hsrc h63 hbytes h
/-- append to a slice that the call owns, in a region that draws its order -/
theorem step_ownN {sz n : Nat} {ops : Array Oper} {o : Oper} {a : Act} {w : World} {K : Act → World → Prop} {Q : Exit → Act → World → Prop} {E : Prop} (hgd : o.guard = none) (s x : Operand) (t tx : TypeId) (ho : o.op = .call { callee := .builtin .append, args := #[s, x], argTypes := #[t, tx] })
    (e : TypeId) (i : TypeInfo) (z : Value) (bytes : Nat) (ht : P.underlying t = some (.slice e)) (hi : P.info? e = some i) (hz : i.zero = some z) (hsize : i.size = sz) (hpos : 0 < sz) (hby : i.bytes = bytes) (hzs : z.cells.size = sz)
    (v xv : Value) (xs : List Value) (hs : a.eval s = v) (hown : OwnN sz w v n xs) (m : Nat) (news : List Value) (hx : a.eval x = xv) (hsrc : Src P sz tx xv m news w)
    (h63 : n + m ≤ maxLen) (hbytes : (n + m) * bytes ≤ 140737488355328)
    (h : ∀ v' w', OwnN sz w' v' (n + m) (xs ++ news) → w.grownBy w' v.ownBlock → (v'.ownBlock = v.ownBlock ∨ ∃ k, v'.ownBlock = some k ∧ w.heap.size ≤ k) → K (a.put o.dst v') w') :
    if Region.wanted o (yielded ops a.tmps) = true then Oper.wp P o a w K Q else E := by
  have hw : Region.wanted o (yielded ops a.tmps) = true := by simp [Region.wanted, hgd]
  rw [if_pos hw]
  exact wp_ownN s x t tx ho e i z bytes ht hi hz hsize hpos hby hzs v xv xs hs hown m news hx hsrc h63 hbytes h
end
end Go.Proofs
