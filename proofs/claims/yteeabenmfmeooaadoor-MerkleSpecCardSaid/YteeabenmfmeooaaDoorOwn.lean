/-
  Slices of one-cell elements that a call makes and appends to: what it owns, told by cells, and append from any source.
-/
import Derived.WalkKit
import Derived.Deep.Upon
namespace Go.Proofs
open Go Go.RowKit
structure OwnAt (w : World) (g cap : Nat) (xs : List Value) : Prop where
  le : xs.length ≤ cap
  mx : cap ≤ maxLen
  lt : g < w.heap.size
  there : ∀ j, j < cap → (w.cell? ⟨g, j, none⟩).isSome = true
  free : ∀ j, w.frozen? ⟨g, j, none⟩ = false
  cells : ∀ (j : Nat) (u : Value), xs[j]? = some u → w.cell? ⟨g, j, none⟩ = some u
/-- the slice is the call's own and holds these -/
def Own (w : World) (v : Value) (xs : List Value) : Prop := (v = .slice none 0 0 ∧ xs = []) ∨ ∃ g cap, v = .slice (some ⟨g, 0, none⟩) xs.length cap ∧ OwnAt w g cap xs
theorem OwnAt.keep {w w' : World} {g cap : Nat} {xs : List Value} (h : OwnAt w g cap xs) (hs : w.heap.size ≤ w'.heap.size) (hb : w'.heap[g]? = w.heap[g]?) : OwnAt w' g cap xs := by
  have hc : ∀ j, w'.cell? ⟨g, j, none⟩ = w.cell? ⟨g, j, none⟩ := fun j => World.cell?_of_block (w := w) (a := ⟨g, j, none⟩) hb
  have hf : ∀ j, w'.frozen? ⟨g, j, none⟩ = w.frozen? ⟨g, j, none⟩ := fun j => World.frozen?_of_block (w := w) (a := ⟨g, j, none⟩) hb
  exact ⟨h.le, h.mx, Nat.lt_of_lt_of_le h.lt hs, fun j hj => by rw [hc]; exact h.there j hj, fun j => by rw [hf]; exact h.free j, fun j u hu => by rw [hc]; exact h.cells j u hu⟩
theorem Own.keep {w w' : World} {v : Value} {xs : List Value} (h : Own w v xs) (hs : w.heap.size ≤ w'.heap.size) (hb : ∀ k, v.ownBlock = some k → w'.heap[k]? = w.heap[k]?) : Own w' v xs := by
  rcases h with h | ⟨g, cap, rfl, h⟩
  · exact .inl h
  · exact .inr ⟨g, cap, rfl, h.keep hs (hb g rfl)⟩
theorem Own.lt {w : World} {v : Value} {xs : List Value} (h : Own w v xs) {k : Nat} (hk : v.ownBlock = some k) : k < w.heap.size := by
  rcases h with ⟨rfl, _⟩ | ⟨g, cap, rfl, h⟩
  · cases hk
  · obtain rfl : g = k := by simpa [Value.ownBlock] using hk
    exact h.lt
theorem Own.nil (w : World) : Own w (.slice none 0 0) [] := .inl ⟨rfl, rfl⟩
theorem Own.alloc {w : World} {v : Value} {xs : List Value} (h : Own w v xs) (o : Obj) : Own (w.alloc o) v xs :=
  h.keep (by simp) fun k hk => heap_alloc_old w o (h.lt hk)
/-- a new block of these cells -/
theorem Own.made (w : World) (cs : Array Value) (t : TypeId) (n : Nat) (hn : n ≤ cs.size) (hm : cs.size ≤ maxLen) : Own (w.alloc (.cells cs t)) (.slice (some ⟨w.heap.size, 0, none⟩) n cs.size) (cs.toList.take n) := by
  have hl : (cs.toList.take n).length = n := by rw [List.length_take, Array.length_toList]; omega
  refine .inr ⟨w.heap.size, cs.size, by rw [hl], ⟨by omega, hm, by simp, fun j hj => ?_, fun j => by simp, fun j u hu => ?_⟩⟩
  · rw [World.cell?_alloc_new]
    simp [hj]
  · rw [World.cell?_alloc_new]
    rw [List.getElem?_take] at hu
    split at hu
    · simpa using hu
    · cases hu
theorem tape_setCells (b : Nat) : ∀ (vs : List Value) (o : Nat) (w : World), (w.setCells b o vs).tape = w.tape
  | [], _, _ => rfl
  | v :: r, o, w => by
    show ((w.setCell ⟨b, o, none⟩ v).setCells b (o + 1) r).tape = w.tape
    rw [tape_setCells b r]
    rfl
section
variable {P : Program}
theorem own_grown {w : World} (xs news : List Value) (z : Value) (e : TypeId) (old m : Nat) (hm : news.length = m) (hz : z.cells.size = 1) (h63 : xs.length + m ≤ maxLen) :
    Own (w.drew.alloc (.cells ((xs ++ news).toArray ++ Builtin.zeroCells z.cells (grownCap w (xs.length + m) old e - (xs.length + m))) e)) (.slice (some ⟨w.heap.size, 0, none⟩) (xs.length + m) (grownCap w (xs.length + m) old e)) (xs ++ news) := by
  have hge := grownCap_ge w (xs.length + m) old e
  have hcm := grownCap_le_maxLen w (xs.length + m) old e h63
  have hsz : ((xs ++ news).toArray ++ Builtin.zeroCells z.cells (grownCap w (xs.length + m) old e - (xs.length + m))).size = grownCap w (xs.length + m) old e := by
    simp only [Array.size_append, List.size_toArray, size_zeroCells, hz, List.length_append, hm, Nat.mul_one]
    omega
  have hl : (xs ++ news).length = xs.length + m := by simp [hm]
  have h := Own.made w.drew ((xs ++ news).toArray ++ Builtin.zeroCells z.cells (grownCap w (xs.length + m) old e - (xs.length + m))) e (xs.length + m) (by rw [hsz]; exact hge) (by rw [hsz]; exact hcm)
  rw [hsz] at h
  have ht : ((xs ++ news).toArray ++ Builtin.zeroCells z.cells (grownCap w (xs.length + m) old e - (xs.length + m))).toList.take (xs.length + m) = xs ++ news := by
    rw [Array.toList_append, ← hl]
    exact List.take_left
  rw [ht] at h
  exact h
/-- append, from any source, to a slice that the call owns -/
theorem own_append {w : World} {v : Value} {xs : List Value} (h : Own w v xs) (t tx ty e : TypeId) (i : TypeInfo) (z : Value) (bytes : Nat) (ht : P.underlying t = some (.slice e)) (hi : P.info? e = some i) (hz : i.zero = some z)
    (hsize : i.size = 1) (hby : i.bytes = bytes) (hzs : z.cells.size = 1) (x : Value) (m : Nat) (news : List Value) (hs : Src P 1 tx x m news w) (h63 : xs.length + m ≤ maxLen) (hb : (xs.length + m) * bytes ≤ 140737488355328) :
    ∃ v' w', (Builtin.append_ #[t, tx] ty #[v, x]).run P w = .ok v' w' ∧ Own w' v' (xs ++ news) ∧ w.grownBy w' v.ownBlock ∧ (v'.ownBlock = v.ownBlock ∨ ∃ k, v'.ownBlock = some k ∧ w.heap.size ≤ k) := by
  have hnl : news.length = m := by have := hs.newsLen; omega
  have hsmall : ((xs.length + m : Nat) : Int) ≤ 9223372036854775807 := by simp only [maxLen] at h63; omega
  subst hby
  have grow : ∀ (base : Option Addr) (cap : Nat), v = .slice base xs.length cap → cap < xs.length + m → (Builtin.firstCells i.size xs.length (.slice base xs.length cap)).run P w.drew = .ok xs.toArray w.drew →
      ∃ v' w', (Builtin.append_ #[t, tx] ty #[v, x]).run P w = .ok v' w' ∧ Own w' v' (xs ++ news) ∧ w.grownBy w' v.ownBlock ∧ (v'.ownBlock = v.ownBlock ∨ ∃ k, v'.ownBlock = some k ∧ w.heap.size ≤ k) := by
    intro base cap hv hg hold
    subst hv
    have hr := run_append_grow_src (P := P) w t tx ty e i z ht hi hz base xs.length cap xs hold x m news (by rw [hsize]; exact hs) hg hsmall (growslice_fits hg hb)
    exact ⟨_, _, hr, own_grown xs news z e cap m hnl hzs h63, ⟨rfl, rfl, rfl, by simp, fun k hk _ => heap_alloc_old w.drew _ hk⟩, .inr ⟨_, rfl, Nat.le_refl _⟩⟩
  rcases h with ⟨rfl, rfl⟩ | ⟨g, cap, rfl, h⟩
  · by_cases hm : m = 0
    · subst hm
      obtain rfl : news = [] := List.eq_nil_of_length_eq_zero hnl
      exact ⟨_, w, run_append_nothing (P := P) w t tx ty e i ht hi none 0 0 (Nat.le_refl _) x (by rw [hsize]; exact hs), .inl ⟨rfl, rfl⟩, ⟨rfl, rfl, rfl, Nat.le_refl _, fun _ _ _ => rfl⟩, .inl rfl⟩
    · exact grow none 0 rfl (by simp; omega) (run_firstCells_none w.drew i.size 0 0 0)
  · by_cases hroom : xs.length + m ≤ cap
    · have hr := run_append_room_src (P := P) w t tx ty e i ht hi g 0 xs.length cap x m news (by rw [hsize]; exact hs) hroom
        (fun j hj => by rw [hsize]; exact h.there _ (by omega)) (fun j _ => h.free _)
      rw [hsize, Nat.mul_one, Nat.zero_add] at hr
      have hth : ∀ j, j < news.length → (w.cell? ⟨g, xs.length + j, none⟩).isSome = true := fun j hj => h.there _ (by omega)
      have hkb := World.keptBut_setCells g (may := fun p => p.block = g) news xs.length w (fun _ _ => rfl)
      have hsz : w.heap.size ≤ (w.setCells g xs.length news).heap.size := hkb.size
      have hin := World.cell?_setCells_in g news xs.length w hth
      have hout := World.cell?_setCells_out g news xs.length w
      have hfr := World.frozen?_setCells g news xs.length w
      refine ⟨_, _, hr, .inr ⟨g, cap, by rw [List.length_append, hnl], ⟨by rw [List.length_append, hnl]; exact hroom, h.mx, Nat.lt_of_lt_of_le h.lt hsz, fun j hj => ?_, fun j => by rw [hfr]; exact h.free j, fun j u hu => ?_⟩⟩,
        ⟨hkb.1, ?_, hkb.2.1, hsz, fun k hk hne => World.heap_setCells_other w g _ news hk (fun e => hne (by simp [Value.ownBlock, e]))⟩, .inl rfl⟩
      · by_cases h1 : xs.length ≤ j ∧ j < xs.length + news.length
        · obtain ⟨k, rfl⟩ : ∃ k, j = xs.length + k := ⟨j - xs.length, by omega⟩
          rw [hin k (by omega)]
          rfl
        · rw [hout ⟨g, j, none⟩ (fun _ _ => by show j < xs.length ∨ xs.length + news.length ≤ j; omega)]
          exact h.there j hj
      · by_cases h1 : j < xs.length
        · rw [List.getElem?_append_left h1] at hu
          rw [hout ⟨g, j, none⟩ (fun _ _ => .inl h1)]
          exact h.cells j u hu
        · rw [List.getElem?_append_right (by omega)] at hu
          obtain ⟨hlt, e⟩ := List.getElem?_eq_some_iff.1 hu
          have := hin (j - xs.length) hlt
          rw [show xs.length + (j - xs.length) = j from by omega] at this
          rw [this, e]
      · exact tape_setCells g news xs.length w
    · refine grow (some ⟨g, 0, none⟩) cap rfl (by omega) ?_
      exact run_firstCells_some w.drew i.size xs.length ⟨g, 0, none⟩ xs.length cap xs (by rw [hsize, Nat.mul_one]) (fun j u hu => by have := h.cells j u hu; simpa [Addr.add_lit] using this)
/-- the value of an owned slice with elements shows what it is -/
theorem Own.form {w : World} {v : Value} {xs : List Value} (h : Own w v xs) (hn : 0 < xs.length) : ∃ g cap, v = .slice (some ⟨g, 0, none⟩) xs.length cap ∧ g < w.heap.size := by
  rcases h with ⟨_, rfl⟩ | ⟨g, cap, rfl, h⟩
  · simp at hn
  · exact ⟨g, cap, rfl, h.lt⟩
theorem wp_own {o : Oper} {a : Act} {w : World} {K : Act → World → Prop} {Q : Exit → Act → World → Prop} (s x : Operand) (t tx : TypeId) (ho : o.op = .call { callee := .builtin .append, args := #[s, x], argTypes := #[t, tx] })
    (e : TypeId) (i : TypeInfo) (z : Value) (bytes : Nat) (ht : P.underlying t = some (.slice e)) (hi : P.info? e = some i) (hz : i.zero = some z) (hsize : i.size = 1) (hby : i.bytes = bytes) (hzs : z.cells.size = 1)
    (v xv : Value) (xs : List Value) (hs : a.eval s = v) (hown : Own w v xs) (m : Nat) (news : List Value) (hx : a.eval x = xv) (hsrc : Src P 1 tx xv m news w)
    (h63 : xs.length + m ≤ maxLen) (hbytes : (xs.length + m) * bytes ≤ 140737488355328)
    (h : ∀ v' w', Own w' v' (xs ++ news) → w.grownBy w' v.ownBlock → (v'.ownBlock = v.ownBlock ∨ ∃ k, v'.ownBlock = some k ∧ w.heap.size ≤ k) → K (a.put o.dst v') w') : o.wp P a w K Q := by
  obtain ⟨v', w', hr, h2, h3, h4⟩ := own_append (P := P) hown t tx o.type e i z bytes ht hi hz hsize hby hzs xv m news hsrc h63 hbytes
  unfold Oper.wp execOp
  simp only [ho, resolve, invoke, builtin, Sem.run_bind, Sem.run_pure, Result.andThen_ok, List.map_toArray, List.map_cons, List.map_nil, hs, hx, hr]
  exact h v' w' h2 h3 h4
theorem wpList_own {ops : Array Oper} {rest : List Oper} {o : Oper} {a : Act} {w : World} {Q : Exit → Act → World → Prop} (hgd : o.guard = none) (s x : Operand) (t tx : TypeId) (ho : o.op = .call { callee := .builtin .append, args := #[s, x], argTypes := #[t, tx] })
    (e : TypeId) (i : TypeInfo) (z : Value) (bytes : Nat) (ht : P.underlying t = some (.slice e)) (hi : P.info? e = some i) (hz : i.zero = some z) (hsize : i.size = 1) (hby : i.bytes = bytes) (hzs : z.cells.size = 1)
    (v xv : Value) (xs : List Value) (hs : a.eval s = v) (hown : Own w v xs) (m : Nat) (news : List Value) (hx : a.eval x = xv) (hsrc : Src P 1 tx xv m news w)
    (h63 : xs.length + m ≤ maxLen) (hbytes : (xs.length + m) * bytes ≤ 140737488355328)
    (h : ∀ v' w', Own w' v' (xs ++ news) → w.grownBy w' v.ownBlock → (v'.ownBlock = v.ownBlock ∨ ∃ k, v'.ownBlock = some k ∧ w.heap.size ≤ k) → wpList P ops Q rest (a.put o.dst v') w') : wpList P ops Q (o :: rest) a w :=
  wpList_plain hgd fun _ hK => wp_own s x t tx ho e i z bytes ht hi hz hsize hby hzs v xv xs hs hown m news hx hsrc h63 hbytes fun v' w' h2 h3 h4 => hK _ _ (h v' w' h2 h3 h4)
theorem step_own {ops : Array Oper} {o : Oper} {a : Act} {w : World} {K : Act → World → Prop} {Q : Exit → Act → World → Prop} {E : Prop} (hgd : o.guard = none) (s x : Operand) (t tx : TypeId) (ho : o.op = .call { callee := .builtin .append, args := #[s, x], argTypes := #[t, tx] })
    (e : TypeId) (i : TypeInfo) (z : Value) (bytes : Nat) (ht : P.underlying t = some (.slice e)) (hi : P.info? e = some i) (hz : i.zero = some z) (hsize : i.size = 1) (hby : i.bytes = bytes) (hzs : z.cells.size = 1)
    (v xv : Value) (xs : List Value) (hs : a.eval s = v) (hown : Own w v xs) (m : Nat) (news : List Value) (hx : a.eval x = xv) (hsrc : Src P 1 tx xv m news w)
    (h63 : xs.length + m ≤ maxLen) (hbytes : (xs.length + m) * bytes ≤ 140737488355328)
    (h : ∀ v' w', Own w' v' (xs ++ news) → w.grownBy w' v.ownBlock → (v'.ownBlock = v.ownBlock ∨ ∃ k, v'.ownBlock = some k ∧ w.heap.size ≤ k) → K (a.put o.dst v') w') :
    if Region.wanted o (yielded ops a.tmps) = true then Oper.wp P o a w K Q else E := by
  have hw : Region.wanted o (yielded ops a.tmps) = true := by simp [Region.wanted, hgd]
  rw [if_pos hw]
  exact wp_own s x t tx ho e i z bytes ht hi hz hsize hby hzs v xv xs hs hown m news hx hsrc h63 hbytes h
end
end Go.Proofs
