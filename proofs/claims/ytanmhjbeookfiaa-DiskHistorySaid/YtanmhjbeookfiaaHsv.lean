/-
  Disks: the variables of a history: arrays of four bytes, lists of acts, the list of acts that waits.
-/
import Derived.Test.YtanmhjbeookfiaaHis
import Derived.Test.YtanmhjbeookfiaaBd
import Derived.Test.YtanmhjbeookfiaaConc
namespace Go.Proofs.Ytanmhjbeookfiaa
open Go Go.RowKit
def acells (q : List Ac) : List Value := q.flatMap fun c => [.bool c.y, byt c.a, byt c.b]
theorem acells_len (q : List Ac) : (acells q).length = q.length * 3 := by
  induction q with
  | nil => rfl
  | cons c q ih =>
    have : acells (c :: q) = [.bool c.y, byt c.a, byt c.b] ++ acells q := rfl
    rw [this, List.length_append, ih]
    simp
    omega
theorem acells_at : ∀ {q : List Ac} {j : Nat} {c : Ac}, q[j]? = some c → (acells q)[j * 3]? = some (.bool c.y) ∧ (acells q)[j * 3 + 1]? = some (byt c.a) ∧ (acells q)[j * 3 + 2]? = some (byt c.b)
  | [], j, c, h => by simp at h
  | x :: q, 0, c, h => by
    cases h
    exact ⟨rfl, rfl, rfl⟩
  | x :: q, j + 1, c, h => by
    have e : acells (x :: q) = [.bool x.y, byt x.a, byt x.b] ++ acells q := rfl
    obtain ⟨h1, h2, h3⟩ := acells_at (q := q) (j := j) (c := c) (by simpa using h)
    rw [e]
    refine ⟨?_, ?_, ?_⟩
    · rw [List.getElem?_append_right (by simp; omega)]
      rw [show (j + 1) * 3 - [Value.bool x.y, byt x.a, byt x.b].length = j * 3 by simp; omega]
      exact h1
    · rw [List.getElem?_append_right (by simp; omega)]
      rw [show (j + 1) * 3 + 1 - [Value.bool x.y, byt x.a, byt x.b].length = j * 3 + 1 by simp; omega]
      exact h2
    · rw [List.getElem?_append_right (by simp; omega)]
      rw [show (j + 1) * 3 + 2 - [Value.bool x.y, byt x.a, byt x.b].length = j * 3 + 2 by simp; omega]
      exact h3
theorem acells_snoc (q : List Ac) (c : Ac) : acells (q ++ [c]) = acells q ++ [.bool c.y, byt c.a, byt c.b] := by simp [acells]
/-- a store into an array of four bytes leaves a disk as it is -/
theorem Bts.chgArr {W W' : World} {b R : Nat} {p : Option Addr} {l : List UInt8} {F : Nat → UInt8} (h : Bts W b p l) (hl : l.length = 128) (hR : W.heap[R]? = some (arow F)) (hc : Chg R W W') : Bts W' b p l := by
  rcases h with h4 | ⟨o, e, hlt, hcc⟩
  · exact .inl h4
  · have hbR : b ≠ R := by
      rintro rfl
      obtain ⟨x, hx⟩ : ∃ x, l[127]? = some x := ⟨_, List.getElem?_eq_getElem (by omega)⟩
      have := hcc 127 x hx
      rcases row_at (by simpa [arow] using hR) this with ⟨h, _⟩ | ⟨h, _⟩ | ⟨h, _⟩ | ⟨h, _⟩ <;> omega
    exact .inr ⟨o, e, Nat.lt_of_lt_of_le hlt hc.size, fun j c hj => (hc.cell hlt hbR).trans (hcc j c hj)⟩
theorem BV.chgArr {W W' : World} {R : Nat} {v : Value} {l : List UInt8} {F : Nat → UInt8} (h : BV W v l) (hl : l.length = 128) (hR : W.heap[R]? = some (arow F)) (hc : Chg R W W') : BV W' v l := by
  obtain ⟨b, cap, p, e, h1, h2, h3, h4⟩ := h
  exact ⟨b, cap, p, e, h1, h2, h3, h4.chgArr hl hR hc⟩
theorem arow_cell {W : World} {R o : Nat} {F : Nat → UInt8} {u : Value} (hR : W.heap[R]? = some (arow F)) (h : W.cell? ⟨R, o, none⟩ = some u) : ∃ k, u = .int .u8 k := by
  rcases row_at (by simpa [arow] using hR) h with ⟨_, e⟩ | ⟨_, e⟩ | ⟨_, e⟩ | ⟨_, e⟩ <;> exact ⟨_, e⟩
theorem DV.chgArr {W W' : World} {v : Value} {X : D} {R : Nat} {F : Nat → UInt8} (h : DV W v X) (hX : X.s.all secB = true) (hP : ∀ x ∈ X.p, x.2.length = 128) (hR : W.heap[R]? = some (arow F)) (hc : Chg R W W') : DV W' v X := by
  obtain ⟨sv, pv, e, hs, hp, hl⟩ := h
  refine ⟨sv, pv, e, ?_, ?_, hl⟩
  · obtain ⟨b, cap, p, e1, h1, h2, h3, h4⟩ := hs
    refine ⟨b, cap, p, e1, h1, h2, h3, ?_⟩
    rcases h4 with h4 | ⟨o, e2, hlt, hcl⟩
    · exact .inl h4
    · refine .inr ⟨o, e2, Nat.lt_of_lt_of_le hlt hc.size, fun j l hj => ?_⟩
      obtain ⟨u, hu, hbv⟩ := hcl j l hj
      have hbR : b ≠ R := by
        rintro rfl
        obtain ⟨k, hk⟩ := arow_cell hR hu
        obtain ⟨_, _, _, e3, _⟩ := hbv
        rw [e3] at hk
        cases hk
      have h128 : l.length = 128 := by
        have := List.all_eq_true.1 hX l (List.mem_of_getElem? hj)
        unfold secB at this
        simpa using this
      exact ⟨u, (hc.cell hlt hbR).trans hu, hbv.chgArr h128 hR hc⟩
  · obtain ⟨b, cap, p, e1, h1, h2, h3, h4⟩ := hp
    refine ⟨b, cap, p, e1, h1, h2, h3, ?_⟩
    rcases h4 with h4 | ⟨o, e2, hlt, hcl⟩
    · exact .inl h4
    · refine .inr ⟨o, e2, Nat.lt_of_lt_of_le hlt hc.size, fun j x hj => ?_⟩
      obtain ⟨u, hu1, hu2, hw, hbv⟩ := hcl j x hj
      have hbR : b ≠ R := by
        rintro rfl
        obtain ⟨k, hk⟩ := arow_cell hR hu1
        cases hk
      exact ⟨u, (hc.cell hlt hbR).trans hu1, (hc.cell hlt hbR).trans hu2, hw, hbv.chgArr (hP x (List.mem_of_getElem? hj)) hR hc⟩
theorem chg_set (w : World) (k o : Nat) (v : Value) : Chg k w (w.setCell ⟨k, o, none⟩ v) := (Chg.refl k w).set (.inl rfl) v
theorem arow_set {W : World} {R : Nat} {F : Nat → UInt8} (h : W.heap[R]? = some (arow F)) {k : Nat} (hk : k < 4) (b : UInt8) : (W.setCell ⟨R, k, none⟩ (.int .u8 (b.toNat : Int))).heap[R]? = some (arow (upd F k b)) := by
  have hlt : R < W.heap.size := (Array.getElem?_eq_some_iff.1 h).1
  have e : W.heap[R] = arow F := (Array.getElem?_eq_some_iff.1 h).2
  show (W.heap.modify R _)[R]? = _
  rw [Array.getElem?_eq_getElem (by rw [Array.size_modify]; exact hlt), Array.getElem_modify_self, e]
  match k, hk with
  | 0, _ => rfl
  | 1, _ => rfl
  | 2, _ => rfl
  | 3, _ => rfl
end Go.Proofs.Ytanmhjbeookfiaa
/-  Disks: the list of acts that waits: its block holds bools and bytes and nothing else, so no disk lies in it. -/
namespace Go.Proofs.Ytanmhjbeookfiaa
open Go Go.RowKit
/-- what may stand at a place of a list of acts -/
def Pt (j : Nat) (u : Value) : Prop := (j % 3 = 0 → ∃ b, u = .bool b) ∧ (j % 3 ≠ 0 → ∃ k, u = .int .u8 k)
def Pat (W : World) (g : Nat) : Prop := ∀ (j : Nat) (u : Value), W.cell? ⟨g, j, none⟩ = some u → Pt j u
theorem pt_acells {q : List Ac} {j : Nat} {u : Value} (h : (acells q)[j]? = some u) : Pt j u := by
  have hlt := (List.getElem?_eq_some_iff.1 h).1
  rw [acells_len] at hlt
  obtain ⟨c, hc⟩ : ∃ c, q[j / 3]? = some c := ⟨_, List.getElem?_eq_getElem (by omega)⟩
  obtain ⟨h1, h2, h3⟩ := acells_at hc
  have hj : j = j / 3 * 3 ∨ j = j / 3 * 3 + 1 ∨ j = j / 3 * 3 + 2 := by omega
  rcases hj with e | e | e
  · rw [← e] at h1
    rw [h1] at h; cases h
    exact ⟨fun _ => ⟨_, rfl⟩, fun h => by omega⟩
  · rw [← e] at h2
    rw [h2] at h; cases h
    exact ⟨fun h => by omega, fun _ => ⟨_, rfl⟩⟩
  · rw [← e] at h3
    rw [h3] at h; cases h
    exact ⟨fun h => by omega, fun _ => ⟨_, rfl⟩⟩
theorem zero_at : ∀ (k j : Nat) (u : Value), ((List.replicate k [Value.bool false, Value.int .u8 0, Value.int .u8 0]).flatten)[j]? = some u → Pt j u
  | 0, j, u, h => by simp at h
  | k + 1, j, u, h => by
    rw [List.replicate_succ, List.flatten_cons] at h
    match j, h with
    | 0, h => cases h; exact ⟨fun _ => ⟨_, rfl⟩, fun h => by omega⟩
    | 1, h => cases h; exact ⟨fun h => by omega, fun _ => ⟨_, rfl⟩⟩
    | 2, h => cases h; exact ⟨fun h => by omega, fun _ => ⟨_, rfl⟩⟩
    | j + 3, h =>
      rw [List.getElem?_append_right (by simp)] at h
      have := zero_at k j u (by simpa using h)
      exact ⟨fun h => this.1 (by omega), fun h => this.2 (by omega)⟩
theorem DV.chgPat {W W' : World} {v : Value} {X : D} {g : Nat} (h : DV W v X) (hX : X.s.all secB = true) (hP : ∀ x ∈ X.p, x.2.length = 128) (hR : Pat W g) (hc : Chg g W W') : DV W' v X := by
  have hby : ∀ {b : Nat} {p : Option Addr} {l : List UInt8}, Bts W b p l → l.length = 128 → Bts W' b p l := by
    intro b p l hb hl
    rcases hb with h4 | ⟨o, e, hlt, hcc⟩
    · exact .inl h4
    · have hbR : b ≠ g := by
        rintro rfl
        obtain ⟨k, hk, hk3⟩ : ∃ k, k < 3 ∧ (o + k) % 3 = 0 := by
          have : o % 3 = 0 ∨ o % 3 = 1 ∨ o % 3 = 2 := by omega
          rcases this with h | h | h
          · exact ⟨0, by omega, by omega⟩
          · exact ⟨2, by omega, by omega⟩
          · exact ⟨1, by omega, by omega⟩
        obtain ⟨x, hx⟩ : ∃ x, l[k]? = some x := ⟨_, List.getElem?_eq_getElem (by omega)⟩
        obtain ⟨y, hy⟩ := (hR (o + k) _ (hcc k x hx)).1 hk3
        cases hy
      exact .inr ⟨o, e, Nat.lt_of_lt_of_le hlt hc.size, fun j c hj => (hc.cell hlt hbR).trans (hcc j c hj)⟩
  have hbv : ∀ {u : Value} {l : List UInt8}, BV W u l → l.length = 128 → BV W' u l := by
    intro u l hb hl
    obtain ⟨b, cap, p, e, h1, h2, h3, h4⟩ := hb
    exact ⟨b, cap, p, e, h1, h2, h3, hby h4 hl⟩
  have hne : ∀ {b o : Nat} {u : Value}, W.cell? ⟨b, o, none⟩ = some u → (∀ x, u ≠ .bool x) → (∀ x, u ≠ .int .u8 x) → b ≠ g := by
    intro b o u hu h1 h2 e
    subst e
    by_cases h3 : o % 3 = 0
    · obtain ⟨x, hx⟩ := (hR o u hu).1 h3; exact h1 x hx
    · obtain ⟨x, hx⟩ := (hR o u hu).2 h3; exact h2 x hx
  obtain ⟨sv, pv, e, hs, hp, hl⟩ := h
  refine ⟨sv, pv, e, ?_, ?_, hl⟩
  · obtain ⟨b, cap, p, e1, h1, h2, h3, h4⟩ := hs
    refine ⟨b, cap, p, e1, h1, h2, h3, ?_⟩
    rcases h4 with h4 | ⟨o, e2, hlt, hcl⟩
    · exact .inl h4
    · refine .inr ⟨o, e2, Nat.lt_of_lt_of_le hlt hc.size, fun j l hj => ?_⟩
      obtain ⟨u, hu, hb⟩ := hcl j l hj
      have hbR : b ≠ g := by
        refine hne hu (fun x e3 => ?_) (fun x e3 => ?_) <;> (obtain ⟨_, _, _, e4, _⟩ := hb; rw [e4] at e3; cases e3)
      have h128 : l.length = 128 := by
        have := List.all_eq_true.1 hX l (List.mem_of_getElem? hj)
        unfold secB at this
        simpa using this
      exact ⟨u, (hc.cell hlt hbR).trans hu, hbv hb h128⟩
  · obtain ⟨b, cap, p, e1, h1, h2, h3, h4⟩ := hp
    refine ⟨b, cap, p, e1, h1, h2, h3, ?_⟩
    rcases h4 with h4 | ⟨o, e2, hlt, hcl⟩
    · exact .inl h4
    · refine .inr ⟨o, e2, Nat.lt_of_lt_of_le hlt hc.size, fun j x hj => ?_⟩
      obtain ⟨u, hu1, hu2, hw, hb⟩ := hcl j x hj
      have hbR : b ≠ g := hne hu1 (fun x e => by cases e) (fun x e => by cases e)
      exact ⟨u, (hc.cell hlt hbR).trans hu1, (hc.cell hlt hbR).trans hu2, hw, hbv hb (hP x (List.mem_of_getElem? hj))⟩
end Go.Proofs.Ytanmhjbeookfiaa
/-  Disks: append of an act to the list that waits. -/
namespace Go.Proofs.Ytanmhjbeookfiaa
open Go Go.RowKit
theorem info46 : (Try.prog.info? 46).map (fun i => (i.zero, i.size, i.bytes)) = some (some (.agg #[.bool false, .int .u8 0, .int .u8 0]), 3, 3) := by kernel_rfl
theorem inf46 : ∃ i, Try.prog.info? 46 = some i ∧ i.zero = some (.agg #[.bool false, .int .u8 0, .int .u8 0]) ∧ i.size = 3 ∧ i.bytes = 3 := by
  have h := info46
  cases hi : Try.prog.info? 46 with
  | none => rw [hi] at h; cases h
  | some i =>
    rw [hi] at h
    simp only [Option.map_some, Option.some.injEq, Prod.mk.injEq] at h
    exact ⟨i, rfl, h⟩
abbrev ac3 (c : Ac) : List Value := [.bool c.y, .int .u8 (c.a.toNat : Int), .int .u8 (c.b.toNat : Int)]
theorem pt_ac3 {c : Ac} {n j : Nat} {u : Value} (h : (ac3 c)[j]? = some u) (hn : n % 3 = 0) : Pt (n + j) u := by
  match j, h with
  | 0, h => cases h; exact ⟨fun _ => ⟨_, rfl⟩, fun h => by omega⟩
  | 1, h => cases h; exact ⟨fun h => by omega, fun _ => ⟨_, rfl⟩⟩
  | 2, h => cases h; exact ⟨fun h => by omega, fun _ => ⟨_, rfl⟩⟩
  | j + 3, h => simp at h
theorem zero3 {k j : Nat} {u : Value} (h : (Builtin.zeroCells #[Value.bool false, .int .u8 0, .int .u8 0] k)[j]? = some u) : Pt j u := by
  unfold Builtin.zeroCells at h
  rw [Array.getElem?_map] at h
  have hs : (#[Value.bool false, .int .u8 0, .int .u8 0] : Array Value).size = 3 := rfl
  rw [hs] at h
  rcases Nat.lt_or_ge j (k * 3) with hj | hj
  · rw [Array.getElem?_range, if_pos hj] at h
    simp only [Option.map_some, Option.some.injEq] at h
    subst h
    have hm : j % 3 = 0 ∨ j % 3 = 1 ∨ j % 3 = 2 := by omega
    rcases hm with e | e | e
    · rw [e]; exact ⟨fun _ => ⟨_, rfl⟩, fun h => absurd e h⟩
    · rw [e]; exact ⟨fun h => by omega, fun _ => ⟨_, rfl⟩⟩
    · rw [e]; exact ⟨fun h => by omega, fun _ => ⟨_, rfl⟩⟩
  · rw [Array.getElem?_range, if_neg (by omega)] at h
    simp at h
theorem app_any {w : World} {v : Value} {q : List Ac} (h : OwnN 3 w v q.length (acells q)) (hp : ∀ j, v.ownBlock = some j → Pat w j) (ty : TypeId) (x : Value) (c : Ac) (hs : Src Try.prog 3 43 x 1 (ac3 c) w) (h63 : q.length + 1 ≤ 4096) :
    ∃ v' w', (Builtin.append_ #[43, 43] ty #[v, x]).run Try.prog w = .ok v' w' ∧ OwnN 3 w' v' (q.length + 1) (acells q ++ ac3 c) ∧ w.grownBy w' v.ownBlock ∧ (v'.ownBlock = v.ownBlock ∨ ∃ k, v'.ownBlock = some k ∧ w.heap.size ≤ k) ∧ (∀ j, v'.ownBlock = some j → Pat w' j) := by
  obtain ⟨i, hi, hz, hsize, hby⟩ := inf46
  have hnl : (ac3 c).length = 1 * 3 := rfl
  have ht := Try.underlying43
  have hsmall : ((q.length + 1 : Nat) : Int) ≤ 9223372036854775807 := by omega
  have hxq := acells_len q
  have grow : ∀ (base : Option Addr) (cap : Nat), v = .slice base q.length cap → cap < q.length + 1 → (Builtin.firstCells i.size q.length (.slice base q.length cap)).run Try.prog w.drew = .ok (acells q).toArray w.drew →
      ∃ v' w', (Builtin.append_ #[43, 43] ty #[v, x]).run Try.prog w = .ok v' w' ∧ OwnN 3 w' v' (q.length + 1) (acells q ++ ac3 c) ∧ w.grownBy w' v.ownBlock ∧ (v'.ownBlock = v.ownBlock ∨ ∃ k, v'.ownBlock = some k ∧ w.heap.size ≤ k) ∧ (∀ j, v'.ownBlock = some j → Pat w' j) := by
    intro base cap hv hg hold
    subst hv
    have hr := run_append_grow_src (P := Try.prog) w 43 43 ty 46 i _ ht hi hz base q.length cap (acells q) hold x 1 (ac3 c) (by rw [hsize]; exact hs) hg hsmall (growslice_fits hg (by rw [hby]; omega))
    refine ⟨_, _, hr, ownN_grown (acells q) (ac3 c) _ 46 cap 1 hxq hnl rfl (by unfold maxLen; omega), ⟨rfl, rfl, rfl, by simp, fun k hk _ => (one_new w.drew _).block k hk⟩, .inr ⟨_, rfl, Nat.le_refl _⟩, ?_⟩
    intro j e
    obtain rfl : w.heap.size = j := by simpa [Value.ownBlock] using e
    intro k u hu
    have hk : ∀ cs : Array Value, (w.drew.alloc (.cells cs 46)).heap[w.heap.size]? = some (.cells cs 46) := fun cs => heap_alloc_new w.drew (.cells cs 46)
    simp only [World.cell?, hk] at hu
    rcases Nat.lt_or_ge k (acells q).length with h1 | h1
    · rw [Array.getElem?_append_left (by simp; omega)] at hu
      rw [List.getElem?_toArray, List.getElem?_append_left h1] at hu
      exact pt_acells hu
    · rcases Nat.lt_or_ge k ((acells q ++ ac3 c).length) with h2 | h2
      · rw [Array.getElem?_append_left (by simpa using h2)] at hu
        rw [List.getElem?_toArray, List.getElem?_append_right h1] at hu
        have := pt_ac3 (n := (acells q).length) hu (by omega)
        rwa [show (acells q).length + (k - (acells q).length) = k by omega] at this
      · rw [Array.getElem?_append_right (by simpa using h2)] at hu
        have h3 : (acells q ++ ac3 c).toArray.size = q.length * 3 + 3 := by simp [hxq]
        rw [h3] at hu
        have hlen : (acells q ++ ac3 c).length = q.length * 3 + 3 := by simp [hxq]
        have := zero3 hu
        exact ⟨fun h => this.1 (by omega), fun h => this.2 (by omega)⟩
  rcases h with ⟨rfl, hn, _⟩ | ⟨g, cap, rfl, h⟩
  · refine grow none 0 (by rw [hn]) (by omega) ?_
    have : q = [] := List.eq_nil_of_length_eq_zero hn
    subst this
    exact run_firstCells_none w.drew i.size 0 0 0
  · by_cases hroom : q.length + 1 ≤ cap
    · have hxl := h.len
      have hr := run_append_room_src (P := Try.prog) w 43 43 ty 46 i ht hi g 0 q.length cap x 1 (ac3 c) (by rw [hsize]; exact hs) hroom
        (fun j hj => by rw [hsize, Nat.zero_add]; exact h.there _ (by omega)) (fun j _ => h.free _)
      rw [hsize, Nat.zero_add, ← hxl] at hr
      have hth : ∀ j, j < (ac3 c).length → (w.cell? ⟨g, (acells q).length + j, none⟩).isSome = true := fun j hj => h.there _ (by rw [hnl] at hj; omega)
      have hkb := World.keptBut_setCells g (may := fun p => p.block = g) (ac3 c) (acells q).length w (fun _ _ => rfl)
      have hsz : w.heap.size ≤ (w.setCells g (acells q).length (ac3 c)).heap.size := hkb.size
      have hin := World.cell?_setCells_in g (ac3 c) (acells q).length w hth
      have hout := World.cell?_setCells_out g (ac3 c) (acells q).length w
      have hfr := World.frozen?_setCells g (ac3 c) (acells q).length w
      refine ⟨_, _, hr, .inr ⟨g, cap, rfl, ⟨hroom, h.mx, Nat.lt_of_lt_of_le h.lt hsz, by rw [List.length_append, hnl, hxl, Nat.add_mul], fun j hj => ?_, fun j => by rw [hfr]; exact h.free j, fun j u hu => ?_⟩⟩,
        ⟨hkb.1, ?_, hkb.2.1, hsz, fun k hk hne => World.heap_setCells_other w g _ (ac3 c) hk (fun e => hne (by simp [Value.ownBlock, e]))⟩, .inl rfl, ?_⟩
      · by_cases h1 : (acells q).length ≤ j ∧ j < (acells q).length + (ac3 c).length
        · obtain ⟨k, rfl⟩ : ∃ k, j = (acells q).length + k := ⟨j - (acells q).length, by omega⟩
          rw [hin k (by omega)]
          rfl
        · rw [hout ⟨g, j, none⟩ (fun _ _ => by show j < (acells q).length ∨ (acells q).length + (ac3 c).length ≤ j; omega)]
          exact h.there j hj
      · by_cases h1 : j < (acells q).length
        · rw [List.getElem?_append_left h1] at hu
          rw [hout ⟨g, j, none⟩ (fun _ _ => .inl h1)]
          exact h.cells j u hu
        · rw [List.getElem?_append_right (by omega)] at hu
          obtain ⟨hlt, e⟩ := List.getElem?_eq_some_iff.1 hu
          have := hin (j - (acells q).length) hlt
          rw [show (acells q).length + (j - (acells q).length) = j from by omega] at this
          rw [this, e]
      · exact tape_setCells g (ac3 c) (acells q).length w
      · intro j e
        obtain rfl : g = j := by simpa [Value.ownBlock] using e
        intro k u hu
        by_cases h1 : (acells q).length ≤ k ∧ k < (acells q).length + (ac3 c).length
        · obtain ⟨k', rfl⟩ : ∃ k', k = (acells q).length + k' := ⟨k - (acells q).length, by omega⟩
          have hlt : k' < (ac3 c).length := by omega
          rw [hin k' hlt] at hu
          refine pt_ac3 (c := c) (n := (acells q).length) ?_ (by omega)
          rw [List.getElem?_eq_getElem hlt]
          exact hu
        · rw [hout ⟨g, k, none⟩ (fun _ _ => by show k < (acells q).length ∨ (acells q).length + (ac3 c).length ≤ k; omega)] at hu
          exact hp g rfl k u hu
    · refine grow (some ⟨g, 0, none⟩) cap rfl (by omega) ?_
      exact run_firstCells_some w.drew i.size q.length ⟨g, 0, none⟩ q.length cap (acells q) (by rw [hsize]; exact h.len) (fun j u hu => by have := h.cells j u hu; simpa [Addr.add_lit] using this)
theorem src_act {w : World} {g : Nat} {c : Ac} (h : w.heap[g]? = some (.cells (ac3 c).toArray 46 (0, 0))) : Src Try.prog 3 43 (.slice (some ⟨g, 0, none⟩) 1 1) 1 (ac3 c) w :=
  Src.ofSlice _ Try.underlying43 ⟨g, 0, none⟩ 1 1 (ac3 c) rfl (fun j u hu => by
    match j, hu with
    | 0, hu => cases hu; simp [Addr.add, World.cell?, h]
    | 1, hu => cases hu; simp [Addr.add, World.cell?, h]
    | 2, hu => cases hu; simp [Addr.add, World.cell?, h]
    | j + 3, hu => simp at hu) (by
    intro u hu
    simp only [List.mem_cons, List.not_mem_nil, or_false] at hu
    rcases hu with rfl | rfl | rfl <;> rfl)
theorem wpList_app {ops : Array Oper} {rest : List Oper} {o : Oper} {a : Act} {w : World} {Q : Exit → Act → World → Prop} (hgd : o.guard = none) (s x : Operand) (ho : o.op = .call { callee := .builtin .append, args := #[s, x], argTypes := #[43, 43] })
    (v xv : Value) (q : List Ac) (c : Ac) (hs : a.eval s = v) (hx : a.eval x = xv) (hown : OwnN 3 w v q.length (acells q)) (hp : ∀ j, v.ownBlock = some j → Pat w j) (hsrc : Src Try.prog 3 43 xv 1 (ac3 c) w) (h63 : q.length + 1 ≤ 4096)
    (h : ∀ v' w', Hid (OwnN 3 w' v' (q.length + 1) (acells q ++ ac3 c)) → Hid (w.grownBy w' v.ownBlock) → Hid (v'.ownBlock = v.ownBlock ∨ ∃ k, v'.ownBlock = some k ∧ w.heap.size ≤ k) → Hid (∀ j, v'.ownBlock = some j → Pat w' j) → wpList Try.prog ops Q rest (a.put o.dst v') w') :
    wpList Try.prog ops Q (o :: rest) a w :=
  wpList_plain hgd fun _ hK => by
    obtain ⟨v', w', hr, h2, h3, h4, h5⟩ := app_any hown hp o.type xv c hsrc h63
    unfold Oper.wp execOp
    simp only [ho, resolve, invoke, builtin, Sem.run_bind, Sem.run_pure, Result.andThen_ok, List.map_toArray, List.map_cons, List.map_nil, hs, hx, hr]
    exact hK _ _ (h v' w' (Lib.hid h2) (Lib.hid h3) (Lib.hid h4) (Lib.hid h5))
end Go.Proofs.Ytanmhjbeookfiaa
/-  Disks: the variables of a history. -/
namespace Go.Proofs.Ytanmhjbeookfiaa
open Go Go.RowKit
/-- the variables of a history: the disk, the three arrays, the list that waits -/
structure HS (w : World) (m b5 b8 b9 b10 : Nat) (wr : World) (X : D) (Lf Ff Sf : Nat → UInt8) (v : Value) (q : List Ac) : Prop where
  bel : Below w.heap.size w wr
  bd : BD wr b5 X
  hl : wr.heap[b8]? = some (arow Lf)
  hf : wr.heap[b9]? = some (arow Ff)
  hs : wr.heap[b10]? = some (arow Sf)
  own : OwnN 3 wr v q.length (acells q)
  new : ∀ j, v.ownBlock = some j → m ≤ j
  pat : ∀ j, v.ownBlock = some j → Pat wr j
  vs : X.s.all secB = true
  vp : ∀ x ∈ X.p, x.2.length = 128
/-- where they lie -/
structure HB (w : World) (m b5 b8 b9 b10 : Nat) : Prop where
  w5 : w.heap.size ≤ b5
  w8 : w.heap.size ≤ b8
  w9 : w.heap.size ≤ b9
  w10 : w.heap.size ≤ b10
  m5 : b5 < m
  m8 : b8 < m
  m9 : b9 < m
  m10 : b10 < m
  n58 : b5 ≠ b8
  n59 : b5 ≠ b9
  n510 : b5 ≠ b10
  n89 : b8 ≠ b9
  n810 : b8 ≠ b10
  n910 : b9 ≠ b10
section
variable {w : World} {m b5 b8 b9 b10 : Nat} {wr : World} {X : D} {Lf Ff Sf : Nat → UInt8} {v : Value} {q : List Ac}
theorem heap_lt {W : World} {k : Nat} {o : Obj} (h : W.heap[k]? = some o) : k < W.heap.size := (Array.getElem?_eq_some_iff.1 h).1
theorem Pat.same {W W' : World} {g : Nat} (h : Pat W g) (e : W'.heap[g]? = W.heap[g]?) : Pat W' g := fun j u hu => h j u (by rw [← hu]; simp only [World.cell?, e])
theorem HS.below (h : HS w m b5 b8 b9 b10 wr X Lf Ff Sf v q) {w' : World} (hb : Below wr.heap.size wr w') : HS w m b5 b8 b9 b10 w' X Lf Ff Sf v q :=
  ⟨h.bel.trans (hb.mono h.bel.size), h.bd.below hb, (hb.block _ (heap_lt h.hl)).trans h.hl, (hb.block _ (heap_lt h.hf)).trans h.hf, (hb.block _ (heap_lt h.hs)).trans h.hs,
    h.own.keep hb.size (fun k hk => hb.block k (h.own.lt hk)), h.new, fun j hj => (h.pat j hj).same (hb.block j (h.own.lt hj)), h.vs, h.vp⟩
theorem BD.chgArr {k R : Nat} {W W' : World} {F : Nat → UInt8} (h : BD W k X) (hX : X.s.all secB = true) (hP : ∀ x ∈ X.p, x.2.length = 128) (hR : W.heap[R]? = some (arow F)) (hne : k ≠ R) (hc : Chg R W W') : BD W' k X := by
  obtain ⟨c0, c1, h1, h2⟩ := h
  exact ⟨c0, c1, (hc.block _ (heap_lt h1) hne).trans h1, h2.chgArr hX hP hR hc⟩
theorem HS.setL (h : HS w m b5 b8 b9 b10 wr X Lf Ff Sf v q) (B : HB w m b5 b8 b9 b10) {k : Nat} (hk : k < 4) (b : UInt8) : HS w m b5 b8 b9 b10 (wr.setCell ⟨b8, k, none⟩ (.int .u8 (b.toNat : Int))) X (upd Lf k b) Ff Sf v q := by
  have hc := chg_set wr b8 k (.int .u8 (b.toNat : Int))
  exact ⟨below_set h.bel B.w8 _, h.bd.chgArr h.vs h.vp h.hl B.n58 hc, arow_set h.hl hk b, (hc.block _ (heap_lt h.hf) (fun e => B.n89 e.symm)).trans h.hf, (hc.block _ (heap_lt h.hs) (fun e => B.n810 e.symm)).trans h.hs,
    h.own.keep hc.size (fun j hj => hc.block j (h.own.lt hj) (by have := h.new j hj; have := B.m8; omega)), h.new, fun j hj => (h.pat j hj).same (hc.block j (h.own.lt hj) (by have := h.new j hj; have := B.m8; omega)), h.vs, h.vp⟩
theorem HS.setF (h : HS w m b5 b8 b9 b10 wr X Lf Ff Sf v q) (B : HB w m b5 b8 b9 b10) {k : Nat} (hk : k < 4) (b : UInt8) : HS w m b5 b8 b9 b10 (wr.setCell ⟨b9, k, none⟩ (.int .u8 (b.toNat : Int))) X Lf (upd Ff k b) Sf v q := by
  have hc := chg_set wr b9 k (.int .u8 (b.toNat : Int))
  exact ⟨below_set h.bel B.w9 _, h.bd.chgArr h.vs h.vp h.hf B.n59 hc, (hc.block _ (heap_lt h.hl) B.n89).trans h.hl, arow_set h.hf hk b, (hc.block _ (heap_lt h.hs) (fun e => B.n910 e.symm)).trans h.hs,
    h.own.keep hc.size (fun j hj => hc.block j (h.own.lt hj) (by have := h.new j hj; have := B.m9; omega)), h.new, fun j hj => (h.pat j hj).same (hc.block j (h.own.lt hj) (by have := h.new j hj; have := B.m9; omega)), h.vs, h.vp⟩
theorem HS.setS (h : HS w m b5 b8 b9 b10 wr X Lf Ff Sf v q) (B : HB w m b5 b8 b9 b10) {k : Nat} (hk : k < 4) (b : UInt8) : HS w m b5 b8 b9 b10 (wr.setCell ⟨b10, k, none⟩ (.int .u8 (b.toNat : Int))) X Lf Ff (upd Sf k b) v q := by
  have hc := chg_set wr b10 k (.int .u8 (b.toNat : Int))
  exact ⟨below_set h.bel B.w10 _, h.bd.chgArr h.vs h.vp h.hs B.n510 hc, (hc.block _ (heap_lt h.hl) B.n810).trans h.hl, (hc.block _ (heap_lt h.hf) B.n910).trans h.hf, arow_set h.hs hk b,
    h.own.keep hc.size (fun j hj => hc.block j (h.own.lt hj) (by have := h.new j hj; have := B.m10; omega)), h.new, fun j hj => (h.pat j hj).same (hc.block j (h.own.lt hj) (by have := h.new j hj; have := B.m10; omega)), h.vs, h.vp⟩
theorem HS.dk (h : HS w m b5 b8 b9 b10 wr X Lf Ff Sf v q) (B : HB w m b5 b8 b9 b10) {w' : World} {Y : D} {c0 c1 : Value} (hr : w'.heap[b5]? = drow c0 c1 Y) (hv : DV wr (.agg #[c0, c1, .int .i64 Y.left, .bool Y.st]) Y)
    (hY : Y.s.all secB = true) (hP : ∀ x ∈ Y.p, x.2.length = 128) (hc : Chg b5 wr w') : HS w m b5 b8 b9 b10 w' Y Lf Ff Sf v q :=
  ⟨Chg.below h.bel h.bel.size B.w5 hc, h.bd.stored hr hv hY hc, (hc.block _ (heap_lt h.hl) (fun e => B.n58 e.symm)).trans h.hl, (hc.block _ (heap_lt h.hf) (fun e => B.n59 e.symm)).trans h.hf, (hc.block _ (heap_lt h.hs) (fun e => B.n510 e.symm)).trans h.hs,
    h.own.keep hc.size (fun j hj => hc.block j (h.own.lt hj) (by have := h.new j hj; have := B.m5; omega)), h.new, fun j hj => (h.pat j hj).same (hc.block j (h.own.lt hj) (by have := h.new j hj; have := B.m5; omega)), hY, hP⟩
theorem HS.app (h : HS w m b5 b8 b9 b10 wr X Lf Ff Sf v q) (B : HB w m b5 b8 b9 b10) (hm : m ≤ wr.heap.size) {w' : World} {v' : Value} {c : Ac} (ho : OwnN 3 w' v' (q.length + 1) (acells q ++ ac3 c)) (hg : wr.grownBy w' v.ownBlock)
    (hn : v'.ownBlock = v.ownBlock ∨ ∃ k, v'.ownBlock = some k ∧ wr.heap.size ≤ k) (hp : ∀ j, v'.ownBlock = some j → Pat w' j) : HS w m b5 b8 b9 b10 w' X Lf Ff Sf v' (q ++ [c]) := by
  have hbw : Below w.heap.size w w' := grown_bel h.bel h.bel.size hg (fun k e => by have := h.new k e; have := B.w5; have := B.m5; omega)
  have hne : ∀ k, k < m → some k ≠ v.ownBlock := fun k hk e => by have := h.new k e.symm; omega
  refine ⟨hbw, ?_, (hg.block _ (heap_lt h.hl) (hne _ B.m8)).trans h.hl, (hg.block _ (heap_lt h.hf) (hne _ B.m9)).trans h.hf, (hg.block _ (heap_lt h.hs) (hne _ B.m10)).trans h.hs, ?_, ?_, hp, h.vs, h.vp⟩
  · obtain ⟨c0, c1, h1, h2⟩ := h.bd
    refine ⟨c0, c1, (hg.block _ (heap_lt h1) (hne _ B.m5)).trans h1, ?_⟩
    cases e : v.ownBlock with
    | none => exact h2.below ⟨hg.os, hg.tape, hg.output, hg.size, fun k hk => hg.block k hk (by rw [e]; simp)⟩
    | some g => exact h2.chgPat h.vs h.vp (h.pat g e) ⟨hg.os, hg.tape, hg.output, hg.size, fun k hk hkg => hg.block k hk (by rw [e]; simpa using hkg)⟩
  · rw [List.length_append, acells_snoc]; exact ho
  · intro j e
    rcases hn with h1 | ⟨k, h1, h2⟩
    · exact h.new j (by rw [← h1]; exact e)
    · rw [h1] at e; cases e; omega
/-- the list that waits begins anew -/
theorem HS.anew (h : HS w m b5 b8 b9 b10 wr X Lf Ff Sf v q) (hm : m ≤ wr.heap.size) : HS w m b5 b8 b9 b10 (wr.alloc (.cells #[] 46)) X Lf Ff Sf (.slice (some ⟨wr.heap.size, 0, none⟩) 0 0) [] := by
  have h2 := h.below (one_new wr (.cells #[] 46))
  exact ⟨h2.bel, h2.bd, h2.hl, h2.hf, h2.hs, .inr ⟨wr.heap.size, 0, rfl, ⟨Nat.le_refl _, by unfold maxLen; omega, by simp, rfl, fun j hj => by omega, fun j => by simp, fun j u hu => by cases hu⟩⟩,
    fun j e => (by have e' : wr.heap.size = j := (by simpa [Value.ownBlock] using e); omega),
    fun j e => (by have e' : wr.heap.size = j := (by simpa [Value.ownBlock] using e); subst e'; intro k u hu; simp at hu), h2.vs, h2.vp⟩
theorem HS.shape (h : HS w m b5 b8 b9 b10 wr X Lf Ff Sf v q) : ∃ p c, v = .slice p q.length c ∧ q.length ≤ c ∧ c ≤ 9223372036854775807 := by
  rcases h.own with ⟨rfl, h1, _⟩ | ⟨g, cap, rfl, h1⟩
  · exact ⟨none, 0, by rw [h1], by omega, by omega⟩
  · have := h1.mx
    unfold maxLen at this
    exact ⟨_, cap, rfl, h1.le, by omega⟩
end
theorem HS.actAt {w : World} {m b5 b8 b9 b10 : Nat} {wr : World} {X : D} {Lf Ff Sf : Nat → UInt8} {p : Option Addr} {n k : Nat} {q : List Ac} (h : HS w m b5 b8 b9 b10 wr X Lf Ff Sf (.slice p n k) q) {j : Nat} {c : Ac} (hj : q[j]? = some c) :
    ∃ g, p = some ⟨g, 0, none⟩ ∧ m ≤ g ∧ g < wr.heap.size ∧ wr.cell? ⟨g, j * 3 + 1, none⟩ = some (.int .u8 (c.a.toNat : Int)) ∧ wr.cell? ⟨g, j * 3 + 2, none⟩ = some (.int .u8 (c.b.toNat : Int)) := by
  have hnew := h.new
  rcases h.own with ⟨_, h1, _⟩ | ⟨g, cap, e, h1⟩
  · have := (List.getElem?_eq_some_iff.1 hj).1
    omega
  · cases e
    obtain ⟨_, h2, h3⟩ := acells_at hj
    exact ⟨g, rfl, hnew g rfl, h1.lt, h1.cells _ _ h2, h1.cells _ _ h3⟩
abbrev zarr : Obj := .cells #[.int .u8 0, .int .u8 0, .int .u8 0, .int .u8 0] 44
theorem zarr_eq : zarr = arow (fun _ => 0) := rfl
theorem hs_start {w we : World} {b5 : Nat} {X : D} (hb : Below w.heap.size w we) (h5 : BD we b5 X) (hs : X.s.all secB = true) (hp : ∀ x ∈ X.p, x.2.length = 128) :
    ∃ W0, ((((we.alloc zarr).alloc zarr).alloc zarr).alloc (.cells #[] 46)) = W0 ∧ we.heap.size + 3 ≤ W0.heap.size ∧
      HS w (we.heap.size + 3) b5 we.heap.size (we.heap.size + 1) (we.heap.size + 1 + 1) W0 X (fun _ => 0) (fun _ => 0) (fun _ => 0) (.slice (some ⟨we.heap.size + 1 + 1 + 1, 0, none⟩) 0 0) [] := by
  have k0 : (((we.alloc zarr).alloc zarr).alloc zarr).heap[we.heap.size]? = some zarr :=
    ((one_new ((we.alloc zarr).alloc zarr) _).block we.heap.size (by simp; omega)).trans (((one_new (we.alloc zarr) _).block we.heap.size (by simp)).trans (heap_alloc_new we _))
  have k1 : (((we.alloc zarr).alloc zarr).alloc zarr).heap[we.heap.size + 1]? = some zarr := by
    have h2 := heap_alloc_new (we.alloc zarr) zarr
    rw [World.size_alloc] at h2
    exact ((one_new ((we.alloc zarr).alloc zarr) _).block (we.heap.size + 1) (by simp)).trans h2
  have k2 : (((we.alloc zarr).alloc zarr).alloc zarr).heap[we.heap.size + 1 + 1]? = some zarr := by
    have h2 := heap_alloc_new ((we.alloc zarr).alloc zarr) zarr
    rw [World.size_alloc, World.size_alloc] at h2
    exact h2
  have hb3 : Below we.heap.size we (((we.alloc zarr).alloc zarr).alloc zarr) := (two_below we _ _).alloc (by simp; omega) _
  have h : HS w (we.heap.size + 3) b5 we.heap.size (we.heap.size + 1) (we.heap.size + 1 + 1) (((we.alloc zarr).alloc zarr).alloc zarr) X (fun _ => 0) (fun _ => 0) (fun _ => 0) (.slice none 0 0) [] :=
    ⟨hb.trans (hb3.mono hb.size), h5.below hb3, k0, k1, k2, OwnN.nil _ _, fun j e => by simp [Value.ownBlock] at e, fun j e => by simp [Value.ownBlock] at e, hs, hp⟩
  have h4 := h.anew (by simp)
  rw [World.size_alloc, World.size_alloc, World.size_alloc] at h4
  exact ⟨_, rfl, by simp, h4⟩
end Go.Proofs.Ytanmhjbeookfiaa
