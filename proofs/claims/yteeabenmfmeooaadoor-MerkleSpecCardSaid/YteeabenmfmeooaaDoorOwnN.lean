/-
  Slices of elements of several cells that a call owns, and append to them.
-/
import Derived.Test.YteeabenmfmeooaaDoorOwn
namespace Go.Proofs
open Go Go.RowKit
structure OwnB (sz : Nat) (w : World) (g cap n : Nat) (xs : List Value) : Prop where
  le : n ≤ cap
  mx : cap ≤ maxLen
  lt : g < w.heap.size
  len : xs.length = n * sz
  there : ∀ j, j < cap * sz → (w.cell? ⟨g, j, none⟩).isSome = true
  free : ∀ j, w.frozen? ⟨g, j, none⟩ = false
  cells : ∀ (j : Nat) (u : Value), xs[j]? = some u → w.cell? ⟨g, j, none⟩ = some u
/-- the slice of n elements is the call's own and its cells hold these -/
def OwnN (sz : Nat) (w : World) (v : Value) (n : Nat) (xs : List Value) : Prop := (v = .slice none 0 0 ∧ n = 0 ∧ xs = []) ∨ ∃ g cap, v = .slice (some ⟨g, 0, none⟩) n cap ∧ OwnB sz w g cap n xs
theorem OwnB.keep {sz : Nat} {w w' : World} {g cap n : Nat} {xs : List Value} (h : OwnB sz w g cap n xs) (hs : w.heap.size ≤ w'.heap.size) (hb : w'.heap[g]? = w.heap[g]?) : OwnB sz w' g cap n xs := by
  have hc : ∀ j, w'.cell? ⟨g, j, none⟩ = w.cell? ⟨g, j, none⟩ := fun j => World.cell?_of_block (w := w) (a := ⟨g, j, none⟩) hb
  have hf : ∀ j, w'.frozen? ⟨g, j, none⟩ = w.frozen? ⟨g, j, none⟩ := fun j => World.frozen?_of_block (w := w) (a := ⟨g, j, none⟩) hb
  exact ⟨h.le, h.mx, Nat.lt_of_lt_of_le h.lt hs, h.len, fun j hj => by rw [hc]; exact h.there j hj, fun j => by rw [hf]; exact h.free j, fun j u hu => by rw [hc]; exact h.cells j u hu⟩
theorem OwnN.keep {sz : Nat} {w w' : World} {v : Value} {n : Nat} {xs : List Value} (h : OwnN sz w v n xs) (hs : w.heap.size ≤ w'.heap.size) (hb : ∀ k, v.ownBlock = some k → w'.heap[k]? = w.heap[k]?) : OwnN sz w' v n xs := by
  rcases h with h | ⟨g, cap, rfl, h⟩
  · exact .inl h
  · exact .inr ⟨g, cap, rfl, h.keep hs (hb g rfl)⟩
theorem OwnN.lt {sz : Nat} {w : World} {v : Value} {n : Nat} {xs : List Value} (h : OwnN sz w v n xs) {k : Nat} (hk : v.ownBlock = some k) : k < w.heap.size := by
  rcases h with ⟨rfl, _⟩ | ⟨g, cap, rfl, h⟩
  · cases hk
  · obtain rfl : g = k := by simpa [Value.ownBlock] using hk
    exact h.lt
theorem OwnN.nil (sz : Nat) (w : World) : OwnN sz w (.slice none 0 0) 0 [] := .inl ⟨rfl, rfl, rfl⟩
theorem OwnN.alloc {sz : Nat} {w : World} {v : Value} {n : Nat} {xs : List Value} (h : OwnN sz w v n xs) (o : Obj) : OwnN sz (w.alloc o) v n xs :=
  h.keep (by simp) fun k hk => heap_alloc_old w o (h.lt hk)
section
variable {P : Program}
theorem ownN_grown {w : World} {sz n : Nat} (xs news : List Value) (z : Value) (e : TypeId) (old m : Nat) (hx : xs.length = n * sz) (hm : news.length = m * sz) (hz : z.cells.size = sz) (h63 : n + m ≤ maxLen) :
    OwnN sz (w.drew.alloc (.cells ((xs ++ news).toArray ++ Builtin.zeroCells z.cells (grownCap w (n + m) old e - (n + m))) e)) (.slice (some ⟨w.heap.size, 0, none⟩) (n + m) (grownCap w (n + m) old e)) (n + m) (xs ++ news) := by
  have hge := grownCap_ge w (n + m) old e
  have hcm := grownCap_le_maxLen w (n + m) old e h63
  have hl : (xs ++ news).length = (n + m) * sz := by rw [List.length_append, hx, hm, Nat.add_mul]
  have hsz : ((xs ++ news).toArray ++ Builtin.zeroCells z.cells (grownCap w (n + m) old e - (n + m))).size = grownCap w (n + m) old e * sz := by
    simp only [Array.size_append, List.size_toArray, size_zeroCells, hz, hl]
    rw [← Nat.add_mul]
    congr 1
    omega
  generalize hcs : ((xs ++ news).toArray ++ Builtin.zeroCells z.cells (grownCap w (n + m) old e - (n + m))) = cs at *
  have hpre : ∀ (j : Nat) (u : Value), (xs ++ news)[j]? = some u → cs[j]? = some u := fun j u hj => by
    have hlt := (List.getElem?_eq_some_iff.1 hj).1
    rw [← hcs, Array.getElem?_append_left (by simpa using hlt)]
    simpa using hj
  have hk : (w.drew.alloc (.cells cs e)).heap[w.heap.size]? = some (.cells cs e) := heap_alloc_new w.drew (.cells cs e)
  have hs : w.heap.size < (w.drew.alloc (.cells cs e)).heap.size := by simp
  generalize w.drew.alloc (.cells cs e) = W at hk hs ⊢
  refine .inr ⟨w.heap.size, _, rfl, ⟨hge, hcm, ?_, hl, fun j hj => ?_, fun j => ?_, fun j u hu => ?_⟩⟩
  · exact hs
  · have : j < cs.size := by omega
    simp [World.cell?, hk, this]
  · simp [World.frozen?, hk]
  · simp [World.cell?, hk, hpre j u hu]
/-- append, from any source, to a slice that the call owns -/
theorem ownN_append {sz n : Nat} {w : World} {v : Value} {xs : List Value} (h : OwnN sz w v n xs) (t tx ty e : TypeId) (i : TypeInfo) (z : Value) (bytes : Nat) (ht : P.underlying t = some (.slice e)) (hi : P.info? e = some i) (hz : i.zero = some z)
    (hsize : i.size = sz) (_hpos : 0 < sz) (hby : i.bytes = bytes) (hzs : z.cells.size = sz) (x : Value) (m : Nat) (news : List Value) (hs : Src P sz tx x m news w) (h63 : n + m ≤ maxLen) (hb : (n + m) * bytes ≤ 140737488355328) :
    ∃ v' w', (Builtin.append_ #[t, tx] ty #[v, x]).run P w = .ok v' w' ∧ OwnN sz w' v' (n + m) (xs ++ news) ∧ w.grownBy w' v.ownBlock ∧ (v'.ownBlock = v.ownBlock ∨ ∃ k, v'.ownBlock = some k ∧ w.heap.size ≤ k) := by
  have hnl : news.length = m * sz := hs.newsLen
  have hsmall : ((n + m : Nat) : Int) ≤ 9223372036854775807 := by simp only [maxLen] at h63; omega
  subst hby
  have grow : ∀ (base : Option Addr) (cap : Nat), v = .slice base n cap → xs.length = n * sz → cap < n + m → (Builtin.firstCells i.size n (.slice base n cap)).run P w.drew = .ok xs.toArray w.drew →
      ∃ v' w', (Builtin.append_ #[t, tx] ty #[v, x]).run P w = .ok v' w' ∧ OwnN sz w' v' (n + m) (xs ++ news) ∧ w.grownBy w' v.ownBlock ∧ (v'.ownBlock = v.ownBlock ∨ ∃ k, v'.ownBlock = some k ∧ w.heap.size ≤ k) := by
    intro base cap hv hx hg hold
    subst hv
    have hr := run_append_grow_src (P := P) w t tx ty e i z ht hi hz base n cap xs hold x m news (by rw [hsize]; exact hs) hg hsmall (growslice_fits hg hb)
    exact ⟨_, _, hr, ownN_grown xs news z e cap m hx hnl hzs h63, ⟨rfl, rfl, rfl, by simp, fun k hk _ => heap_alloc_old w.drew _ hk⟩, .inr ⟨_, rfl, Nat.le_refl _⟩⟩
  rcases h with ⟨rfl, rfl, rfl⟩ | ⟨g, cap, rfl, h⟩
  · by_cases hm : m = 0
    · subst hm
      obtain rfl : news = [] := List.eq_nil_of_length_eq_zero (by simpa using hnl)
      exact ⟨_, w, run_append_nothing (P := P) w t tx ty e i ht hi none 0 0 (Nat.le_refl _) x (by rw [hsize]; exact hs), .inl ⟨rfl, rfl, rfl⟩, ⟨rfl, rfl, rfl, Nat.le_refl _, fun _ _ _ => rfl⟩, .inl rfl⟩
    · exact grow none 0 rfl (by simp) (by omega) (run_firstCells_none w.drew i.size 0 0 0)
  · have hxl := h.len
    by_cases hroom : n + m ≤ cap
    · have hle : n * sz + m * sz ≤ cap * sz := by rw [← Nat.add_mul]; exact Nat.mul_le_mul_right _ hroom
      have hr := run_append_room_src (P := P) w t tx ty e i ht hi g 0 n cap x m news (by rw [hsize]; exact hs) hroom
        (fun j hj => by rw [hsize, Nat.zero_add]; exact h.there _ (by omega)) (fun j _ => h.free _)
      rw [hsize, Nat.zero_add, ← hxl] at hr
      have hth : ∀ j, j < news.length → (w.cell? ⟨g, xs.length + j, none⟩).isSome = true := fun j hj => h.there _ (by omega)
      have hkb := World.keptBut_setCells g (may := fun p => p.block = g) news xs.length w (fun _ _ => rfl)
      have hsz : w.heap.size ≤ (w.setCells g xs.length news).heap.size := hkb.size
      have hin := World.cell?_setCells_in g news xs.length w hth
      have hout := World.cell?_setCells_out g news xs.length w
      have hfr := World.frozen?_setCells g news xs.length w
      refine ⟨_, _, hr, .inr ⟨g, cap, rfl, ⟨hroom, h.mx, Nat.lt_of_lt_of_le h.lt hsz, by rw [List.length_append, hnl, hxl, Nat.add_mul], fun j hj => ?_, fun j => by rw [hfr]; exact h.free j, fun j u hu => ?_⟩⟩,
        ⟨hkb.1, ?_, hkb.2.1, hsz, fun k hk hne => World.heap_setCells_other w g _ news hk (fun e => hne (by simp [Value.ownBlock, e]))⟩, .inl rfl⟩
      · by_cases h1 : xs.length ≤ j ∧ j < xs.length + news.length
        · obtain ⟨k, rfl⟩ : ∃ k, j = xs.length + k := ⟨j - xs.length, by omega⟩
          rw [hin k (by omega)]
          rfl
        · rw [hout ⟨g, j, none⟩ (fun _ _ => by show j < xs.length ∨ xs.length + news.length ≤ j; omega)]
          exact h.there j hj
      · by_cases h1 : j < xs.length
        · rw [List.getElem?_append_left h1] at hu
          rw [hout ⟨g, j, none⟩ (fun _ _ => .inl h1)]
          exact h.cells j u hu
        · rw [List.getElem?_append_right (by omega)] at hu
          obtain ⟨hlt, e⟩ := List.getElem?_eq_some_iff.1 hu
          have := hin (j - xs.length) hlt
          rw [show xs.length + (j - xs.length) = j from by omega] at this
          rw [this, e]
      · exact tape_setCells g news xs.length w
    · refine grow (some ⟨g, 0, none⟩) cap rfl hxl (by omega) ?_
      exact run_firstCells_some w.drew i.size n ⟨g, 0, none⟩ n cap xs (by rw [hsize]; exact hxl) (fun j u hu => by have := h.cells j u hu; simpa [Addr.add_lit] using this)
theorem wp_ownN {sz n : Nat} {o : Oper} {a : Act} {w : World} {K : Act → World → Prop} {Q : Exit → Act → World → Prop} (s x : Operand) (t tx : TypeId) (ho : o.op = .call { callee := .builtin .append, args := #[s, x], argTypes := #[t, tx] })
    (e : TypeId) (i : TypeInfo) (z : Value) (bytes : Nat) (ht : P.underlying t = some (.slice e)) (hi : P.info? e = some i) (hz : i.zero = some z) (hsize : i.size = sz) (hpos : 0 < sz) (hby : i.bytes = bytes) (hzs : z.cells.size = sz)
    (v xv : Value) (xs : List Value) (hs : a.eval s = v) (hown : OwnN sz w v n xs) (m : Nat) (news : List Value) (hx : a.eval x = xv) (hsrc : Src P sz tx xv m news w)
    (h63 : n + m ≤ maxLen) (hbytes : (n + m) * bytes ≤ 140737488355328)
    (h : ∀ v' w', OwnN sz w' v' (n + m) (xs ++ news) → w.grownBy w' v.ownBlock → (v'.ownBlock = v.ownBlock ∨ ∃ k, v'.ownBlock = some k ∧ w.heap.size ≤ k) → K (a.put o.dst v') w') : o.wp P a w K Q := by
  obtain ⟨v', w', hr, h2, h3, h4⟩ := ownN_append (P := P) hown t tx o.type e i z bytes ht hi hz hsize hpos hby hzs xv m news hsrc h63 hbytes
  unfold Oper.wp execOp
  simp only [ho, resolve, invoke, builtin, Sem.run_bind, Sem.run_pure, Result.andThen_ok, List.map_toArray, List.map_cons, List.map_nil, hs, hx, hr]
  exact h v' w' h2 h3 h4
theorem wpList_ownN {sz n : Nat} {ops : Array Oper} {rest : List Oper} {o : Oper} {a : Act} {w : World} {Q : Exit → Act → World → Prop} (hgd : o.guard = none) (s x : Operand) (t tx : TypeId) (ho : o.op = .call { callee := .builtin .append, args := #[s, x], argTypes := #[t, tx] })
    (e : TypeId) (i : TypeInfo) (z : Value) (bytes : Nat) (ht : P.underlying t = some (.slice e)) (hi : P.info? e = some i) (hz : i.zero = some z) (hsize : i.size = sz) (hpos : 0 < sz) (hby : i.bytes = bytes) (hzs : z.cells.size = sz)
    (v xv : Value) (xs : List Value) (hs : a.eval s = v) (hown : OwnN sz w v n xs) (m : Nat) (news : List Value) (hx : a.eval x = xv) (hsrc : Src P sz tx xv m news w)
    (h63 : n + m ≤ maxLen) (hbytes : (n + m) * bytes ≤ 140737488355328)
    (h : ∀ v' w', OwnN sz w' v' (n + m) (xs ++ news) → w.grownBy w' v.ownBlock → (v'.ownBlock = v.ownBlock ∨ ∃ k, v'.ownBlock = some k ∧ w.heap.size ≤ k) → wpList P ops Q rest (a.put o.dst v') w') : wpList P ops Q (o :: rest) a w :=
  wpList_plain hgd fun _ hK => wp_ownN s x t tx ho e i z bytes ht hi hz hsize hpos hby hzs v xv xs hs hown m news hx hsrc h63 hbytes fun v' w' h2 h3 h4 => hK _ _ (h v' w' h2 h3 h4)
end
end Go.Proofs
