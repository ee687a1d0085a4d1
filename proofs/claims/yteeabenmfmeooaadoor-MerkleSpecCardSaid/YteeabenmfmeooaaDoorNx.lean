/-
  Merkle: the next row.
-/
import Derived.Test.YteeabenmfmeooaaDoorJn
import Derived.Deep.CutRange
import Derived.Deep.RegionHeld3
import Derived.Sort.CutIn
namespace Go.Proofs.YteeabenmfmeooaaDoor
open Go Go.RowKit Go.Shelf
attribute [local go_sem] Oper.semAt_some
theorem Kp.grown {G : Nat → Prop} {w w1 w2 : World} {r : Option Nat} (h : Kp G w w1) (hg : w1.grownBy w2 r) (hr : ∀ j, r = some j → G j) : Kp G w w2 :=
  ⟨hg.os.trans h.os, hg.tape.trans h.tape, hg.output.trans h.output, Nat.le_trans h.size hg.size, fun k hk hG => (hg.block k (Nat.lt_of_lt_of_le hk h.size) (fun e => hG (hr k e.symm))).trans (h.block k hk hG)⟩
/-- the block of the own row -/
abbrev OB (rv : Value) : Nat → Prop := fun k => rv.ownBlock = some k
theorem new_of {m : Nat} {w1 : World} {v v2 : Value} (h : v2.ownBlock = v.ownBlock ∨ ∃ k, v2.ownBlock = some k ∧ w1.heap.size ≤ k) (hm : m ≤ w1.heap.size) : v2.ownBlock = v.ownBlock ∨ ∃ k, v2.ownBlock = some k ∧ m ≤ k := by
  rcases h with h | ⟨k, h, h2⟩
  · exact .inl h
  · exact .inr ⟨k, h, by omega⟩
theorem own_keep {w w' : World} {v : Value} {n : Nat} {xs : List Value} (h : OwnN 32 w v n xs) (hb : Below w.heap.size w w') : OwnN 32 w' v n xs := h.keep hb.size fun k hk => hb.block k (h.lt hk)
theorem own_cells {w : World} {v : Value} {n : Nat} {xs : List Value} (h : OwnN 32 w v n xs) (hn : 0 < n) : ∀ k, v.ownBlock = some k → ∃ cs t fr, w.heap[k]? = some (.cells cs t fr) := fun k hk => by
  rcases h with ⟨rfl, h, _⟩ | ⟨g, cap, rfl, h⟩
  · omega
  · obtain rfl : g = k := by simpa [Value.ownBlock] using hk
    have h0 := h.there 0 (by have := h.le; omega)
    unfold World.cell? at h0
    cases hg : w.heap[g]? with
    | none => rw [hg] at h0; simp at h0
    | some o =>
      cases o with
      | cells cs t fr => exact ⟨cs, t, fr, rfl⟩
      | _ => rw [hg] at h0; simp at h0
theorem own_form {w : World} {v : Value} {n : Nat} {xs : List Value} (h : OwnN 32 w v n xs) : ∃ p c, v = .slice p n c := by
  rcases h with ⟨rfl, rfl, _⟩ | ⟨g, cap, rfl, _⟩
  · exact ⟨none, 0, rfl⟩
  · exact ⟨_, cap, rfl⟩
theorem own_form3 {w : World} {v : Value} {n : Nat} {xs : List Value} (h : OwnN 32 w v n xs) : ∃ p m c, v = .slice p m c := by
  obtain ⟨p, c, h⟩ := own_form h
  exact ⟨p, n, c, h⟩
theorem Kp.up {G : Nat → Prop} {w w' : World} (h : Kp (fun _ => False) w w') : Kp G w w' := ⟨h.os, h.tape, h.output, h.size, fun k hk _ => h.block k hk (fun e => e)⟩
theorem Kp.bel {w w' : World} (h : Kp (fun _ => False) w w') : Below w.heap.size w w' := ⟨h.os, h.tape, h.output, h.size, fun k hk => h.block k hk (fun e => e)⟩
/-- a row of its own in a box -/
def RBox (w W1 : World) (L : List (List UInt8)) (V : World) (rv : Value) : Prop := V.cell? ⟨w.heap.size + 1, 0, none⟩ = some rv ∧ V.frozen? ⟨w.heap.size + 1, 0, none⟩ = false ∧ OwnN 32 V rv L.length (fl L) ∧ (∀ j, rv.ownBlock = some j → W1.heap.size ≤ j) ∧ (∀ j, rv.ownBlock = some j → ∃ cs t fr, V.heap[j]? = some (.cells cs t fr))
theorem RBox.own {w W1 V V2 : World} {L : List (List UInt8)} {rv : Value} {row : Option Nat} (h : RBox w W1 L V rv) (hg : V.grownBy V2 row) (hr : ∀ r, row = some r → W1.heap.size ≤ r ∧ ∃ o : Obj, V.heap[r]? = some o ∧ o.isCells = false) : RBox w W1 L V2 rv := by
  obtain ⟨p1, p2, p3, p4, p5⟩ := h
  have hne : ∀ j, rv.ownBlock = some j → V2.heap[j]? = V.heap[j]? := fun j hj => hg.block j (p3.lt hj) (fun e => by
    obtain ⟨_, o, ho, hc⟩ := hr j e.symm
    obtain ⟨cs, t, fr, hcs⟩ := p5 j hj
    rw [hcs] at ho
    cases ho
    cases hc)
  exact ⟨own_cell p1 hg hr, own_free p1 p2 hg hr, p3.keep hg.size hne, p4, fun j hj => by rw [hne j hj]; exact p5 j hj⟩
theorem RBox.later {w W1 V V2 : World} {L : List (List UInt8)} {rv : Value} (h : RBox w W1 L V rv) (hb : Below V.heap.size V V2) (hz : w.heap.size + 1 < V.heap.size) : RBox w W1 L V2 rv := by
  obtain ⟨p1, p2, p3, p4, p5⟩ := h
  exact ⟨(hb.cell (p := ⟨w.heap.size + 1, 0, none⟩) hz).trans p1, (hb.frozen (p := ⟨w.heap.size + 1, 0, none⟩) hz).trans p2, own_keep p3 hb, p4, fun j hj => by rw [hb.block j (p3.lt hj)]; exact p5 j hj⟩
/-- what else of old memory stays when the own row grows and is stored in its box -/
theorem RBox.step {w W1 V U : World} {L L2 : List (List UInt8)} {rv rv2 : Value} (h : RBox w W1 L V rv) (hW : w.heap.size + 2 ≤ W1.heap.size) (hV : W1.heap.size ≤ V.heap.size) (hk : Kp (OB rv) V U) (ho : OwnN 32 U rv2 L2.length (fl L2)) (hn : rv2.ownBlock = rv.ownBlock ∨ ∃ k, rv2.ownBlock = some k ∧ V.heap.size ≤ k) (hp : 0 < L2.length) :
    RBox w W1 L2 (U.setCell ⟨w.heap.size + 1, 0, none⟩ rv2) rv2 ∧ (∀ b, b < W1.heap.size → b ≠ w.heap.size + 1 → (U.setCell ⟨w.heap.size + 1, 0, none⟩ rv2).heap[b]? = V.heap[b]?) ∧ V.heap.size ≤ (U.setCell ⟨w.heap.size + 1, 0, none⟩ rv2).heap.size ∧ KeepsFrom W1.heap.size V (U.setCell ⟨w.heap.size + 1, 0, none⟩ rv2) := by
  obtain ⟨p1, p2, p3, p4, p5⟩ := h
  have hG : ∀ b, b < W1.heap.size → ¬ OB rv b := fun b hb e => by have := p4 b e; omega
  have q1 := (hk.cell (b := w.heap.size + 1) (o := 0) (by omega) (hG _ (by omega))).trans p1
  have q2 := (hk.frozen (b := w.heap.size + 1) (o := 0) (by omega) (hG _ (by omega))).trans p2
  have hs := hk.size
  have hnew : ∀ j, rv2.ownBlock = some j → W1.heap.size ≤ j := fun j hj => by
    rcases hn with e | ⟨k, e, hk2⟩
    · exact p4 j (e ▸ hj)
    · rw [e] at hj; cases hj; omega
  have hoth : ∀ b, b ≠ w.heap.size + 1 → (U.setCell ⟨w.heap.size + 1, 0, none⟩ rv2).heap[b]? = U.heap[b]? := fun b hb => Below.heap_setCell _ _ _ _ (by simpa using hb)
  refine ⟨⟨World.cell?_setCell_same' _ _ _ (by rw [q1]; rfl), by rw [World.frozen?_setCell]; exact q2, ho.keep (by rw [World.size_setCell]; exact Nat.le_refl _) (fun j hj => hoth j (by have := hnew j hj; omega)), hnew, fun j hj => ?_⟩, fun b hb hne => (hoth b hne).trans (hk.block b (by omega) (hG b hb)), by rw [World.size_setCell]; exact hs, ⟨by rw [World.size_setCell]; exact hs, fun k o hB hko hc => ?_⟩⟩
  · rw [hoth j (by have := hnew j hj; omega)]
    exact own_cells ho hp j hj
  · rw [hoth k (by omega)]
    refine (hk.block k (Array.getElem?_eq_some_iff.1 hko).1 (fun e => ?_)).trans hko
    obtain ⟨cs, t, fr, hcs⟩ := p5 k e
    rw [hcs] at hko
    cases hko
    cases hc
/-- between two rounds of nextRow -/
structure NI (w W1 : World) (b o n c : Nat) (L : List (List UInt8)) (k : Nat) (V : World) : Prop where
  h : V.cell? ⟨w.heap.size, 0, none⟩ = some hv
  r : ∃ rv, RBox w W1 (L.take k) V rv
  q : CBx (w.heap.size + 1 + 1) (w.heap.size + 1 + 1 + 1) b o n c V
  below : Below w.heap.size w V
  size : W1.heap.size ≤ V.heap.size
theorem NI.own {w W1 : World} (b o n c : Nat) (L : List (List UInt8)) (hw : w.heap.size ≤ W1.heap.size) : OwnFrom W1.heap.size (NI w W1 b o n c L) := fun k A V row hs hg hr => by
  obtain ⟨rv, hr2⟩ := hs.r
  exact ⟨own_cell hs.h hg hr, ⟨rv, hr2.own hg hr⟩, ⟨own_cell hs.q.1 hg hr, own_cell hs.q.2 hg hr⟩, ownFrom_below (Nat.le_refl _) hw () A V row hs.below hg hr, Nat.le_trans hs.size hg.size⟩
theorem NI.step {w W1 V U : World} {b o n c : Nat} {L : List (List UInt8)} {k : Nat} {rv rv2 : Value} (h : NI w W1 b o n c L k V) (hr : RBox w W1 (L.take k) V rv) (hW : w.heap.size + 4 = W1.heap.size) (hk : Kp (OB rv) V U) (ho : OwnN 32 U rv2 (L.take (k + 1)).length (fl (L.take (k + 1)))) (hn : rv2.ownBlock = rv.ownBlock ∨ ∃ k, rv2.ownBlock = some k ∧ V.heap.size ≤ k) (hp : 0 < (L.take (k + 1)).length) :
    KeepsFrom W1.heap.size V (U.setCell ⟨w.heap.size + 1, 0, none⟩ rv2) ∧ NI w W1 b o n c L (k + 1) (U.setCell ⟨w.heap.size + 1, 0, none⟩ rv2) := by
  have hs := h.size
  obtain ⟨h1, h2, h3, h4⟩ := hr.step (by omega) hs hk ho hn hp
  have oc : ∀ b' v, b' < W1.heap.size → b' ≠ w.heap.size + 1 → V.cell? ⟨b', 0, none⟩ = some v → (U.setCell ⟨w.heap.size + 1, 0, none⟩ rv2).cell? ⟨b', 0, none⟩ = some v := fun b' v hb hne hc => (World.cell?_of_block (w := V) (a := ⟨b', 0, none⟩) (h2 b' hb hne)).trans hc
  exact ⟨h4, oc _ _ (by omega) (by omega) h.h, ⟨rv2, h1⟩, ⟨oc _ _ (by omega) (by omega) h.q.1, oc _ _ (by omega) (by omega) h.q.2⟩, below_set (Kp.below h.below h.below.size hk (fun k hk e => by have := hr.2.2.2.1 k e; omega)) (Nat.le_succ _) _, Nat.le_trans hs h3⟩
theorem nx_world (w : World) (_v : Value) (n c : Nat) (p : Option Addr) : ∃ W1, ((((w.alloc (.cells #[hv] 45)).alloc (.cells #[.slice none 0 0] 25)).alloc (.cells #[.slice p n c] 25)).alloc (.cells #[.int .i64 2] 3)) = W1 ∧ W1.heap.size = w.heap.size + 4 ∧ Below w.heap.size w W1 ∧
    W1.cell? ⟨w.heap.size, 0, none⟩ = some hv ∧ RBox w W1 [] W1 (.slice none 0 0) ∧ W1.cell? ⟨w.heap.size + 1 + 1, 0, none⟩ = some (.slice p n c) ∧ W1.cell? ⟨w.heap.size + 1 + 1 + 1, 0, none⟩ = some (.int .i64 2) := by
  refine ⟨_, rfl, by simp, ((((Below.refl _ w).alloc (Nat.le_refl _) _).alloc (by simp) _).alloc (by simp; omega) _).alloc (by simp; omega) _, by go_simp, ⟨by go_simp, by go_simp, .inl ⟨rfl, rfl, rfl⟩, (fun j e => by cases e), (fun j e => by cases e)⟩, by go_simp, by go_simp⟩
set_option maxRecDepth 100000 in
set_option maxHeartbeats 4000000 in
theorem next_any (v : Value) (l : List (List UInt8)) (w : World) (hv' : LD w v l) (h32 : D32 l) (hn : l.length ≤ 100000) (hpos : 0 < l.length) (hk : KOK w) : Calls Tryd.prog 43 #[hv, v] w (RowR (nextL l) w) := by
  have HV := Lib.hid hv'
  have HK := Lib.hid hk
  have H32 := Lib.hid h32
  obtain ⟨b, c, p, rfl, hc1, hc2, _, hc4⟩ := hv'
  rcases hc4 with hc4 | ⟨o, rfl, hblt, hra⟩
  · rw [hc4] at hpos; simp at hpos
  have HRA := Lib.hid hra
  have hc3 : c ≤ 9223372036854775807 := hc2
  obtain ⟨n, hnn⟩ : ∃ n, l.length = n := ⟨_, rfl⟩
  have HN := Lib.hid hnn
  rw [hnn] at hc1 hn hpos HV ⊢
  clear hk h32 hra hc2 hnn
  refine (callsIn_wide (n := 3)).1 ?_
  refine callsIn_of_wp_marks Tryd.func43 rfl trivial ?_ rfl
  simp only [Tryd.ntmps43, List.size_toArray, List.length_cons, List.length_nil, Nat.reduceAdd, Nat.reduceSub, Array.replicate_succ, Array.replicate_zero, List.push_toArray, List.append_toArray, List.nil_append, List.cons_append]
  gi_wp2_with (refine ⟨trivial, ?_⟩; gi_at_call 55; refine (chunk_mk _ _ _ _ _).mono ?_; rintro e w' ⟨rfl, rfl⟩)
  obtain ⟨W1, hW1, hsz1, hB1, k0, hRB0, k2, k3⟩ := nx_world w hv n c (some ⟨b, o, none⟩)
  rw [hW1]
  have hP0 : NI w W1 b o n c (nextL l) 0 W1 := ⟨k0, ⟨_, hRB0⟩, ⟨k2, k3⟩, hB1, Nat.le_refl _⟩
  clear hW1 k0 hRB0 k2 k3
  refine wpIn_range (w := W1) rfl (by omega) (gf := 62) (lb := #[.pointer (some ⟨w.heap.size + 1 + 1, 0, none⟩), .pointer (some ⟨w.heap.size + 1 + 1 + 1, 0, none⟩)]) rfl trivial (enters_of Tryd.func62 (by kernel_rfl) rfl) (chunk_in 2 (by omega) (w.heap.size + 1 + 1) (w.heap.size + 1 + 1 + 1) b o n c (by omega) hc1 hc3) (fun _ => rfl)
    (NI w W1 b o n c (nextL l)) (fun _ _ => False) (NI.own _ _ _ _ _ (by omega)) (fun c A V row hs _ _ => hs) (fun k V h => h.q) hP0
    (fun x a' V => a' = { tmps := #[hv, .slice (some ⟨b, o, none⟩) n c, .pointer (some ⟨w.heap.size, 0, none⟩), undef, .pointer (some ⟨w.heap.size + 1, 0, none⟩), x, .slice (some ⟨b, o, none⟩) n c, .func (.func 62) #[] #[.pointer (some ⟨w.heap.size + 1 + 1, 0, none⟩), .pointer (some ⟨w.heap.size + 1 + 1 + 1, 0, none⟩)], x, undef, undef, undef, undef, undef, undef, undef], defers := [] })
    (fun z a' _ A V row hs hg hr => hs)
    ?assign ?body ?done ?stop
  case assign =>
    rintro rd k z V K hz hVs hP hK
    gi_wp2
    exact hK _ _ ⟨Nat.le_refl _, fun _ _ _ h _ => h⟩ hP rfl
  case body =>
    rintro rd k x a' V hVs hx hP rfl
    have hkl := (List.getElem?_eq_some_iff.1 hx).1
    rw [chL_len] at hkl
    have hk2 : 2 * k < n := by omega
    rw [chL_at hk2] at hx
    cases hx
    obtain ⟨rv, hr⟩ := hP.r
    have hVW := hP.size
    have hh := hP.h
    have hnL := nextL_len l
    rw [HN.out] at hnL
    have hkl2 : k < (nextL l).length := by omega
    have htk : (nextL l).take (k + 1) = (nextL l).take k ++ [joinD (piece l k)] := by rw [List.take_add_one, nextL_at (by rw [HN.out]; exact hk2)]; rfl
    have hjl : (joinD (piece l k)).length = 32 := joinD_len (piece32 H32.out k) (piece_ne (by rw [HN.out]; exact hk2))
    have hln : ((nextL l).take k).length ≤ 1000000 := by rw [List.length_take]; omega
    have hpl : 0 < ((nextL l).take (k + 1)).length := by rw [htk]; simp
    have HTK := Lib.hid htk
    clear htk
    have hG : ∀ b', b' < W1.heap.size → ¬ OB rv b' := fun b' hb e => by have := hr.2.2.2.1 b' e; omega
    have hSB : Hid (∀ U, Kp (OB rv) V U → U.cell? ⟨w.heap.size, 0, none⟩ = some hv) := Lib.hid fun U hk => (hk.cell (by omega) (hG _ (by omega))).trans hh
    have hRB : Hid (∀ U, Kp (OB rv) V U → U.cell? ⟨w.heap.size + 1, 0, none⟩ = some rv ∧ U.frozen? ⟨w.heap.size + 1, 0, none⟩ = false) := Lib.hid fun U hk => ⟨(hk.cell (by omega) (hG _ (by omega))).trans hr.1, (hk.frozen (by omega) (hG _ (by omega))).trans hr.2.1⟩
    have hRO : Hid (∀ U, Kp (fun _ => False) V U → OwnN 32 U rv ((nextL l).take k).length (fl ((nextL l).take k))) := Lib.hid fun U hk => own_keep hr.2.2.1 hk.bel
    have hST : Hid (∀ U, Kp (OB rv) V U → ∀ rv2, (U.setCell ⟨w.heap.size + 1, 0, none⟩ rv2).cell? ⟨w.heap.size, 0, none⟩ = some hv) := Lib.hid fun U hk rv2 => (World.cell?_of_block (w := U) (a := ⟨w.heap.size, 0, none⟩) (Below.heap_setCell _ _ _ _ (by simp only; omega))).trans (hSB.out U hk)
    have hJN : Hid (∀ U, Kp (fun _ => False) V U → Calls Tryd.prog 56 #[hv, chV b o n k] U (DgR (joinD (piece l k)) U)) := Lib.hid fun U hk => by
      have hbw : Below w.heap.size w U := hP.below.trans (hk.bel.mono hP.below.size)
      have hld := piece_ld (w := U) (_c := c) H32.out (Nat.lt_of_lt_of_le hblt hbw.size) (fun j u hj => (hbw.cell (p := ⟨b, o + j, none⟩) hblt).trans (HRA.out j u hj)) k (by rw [HN.out]; exact hk2)
      rw [HN.out] at hld
      exact join_any _ (piece l k) U hld (piece32 H32.out k) (piece_ne (by rw [HN.out]; exact hk2)) (by rw [piece_len]; omega) (HK.out.below hbw)
    have hP2 := Lib.hid hP
    have hR2 := Lib.hid hr
    have B0 : Hid (Kp (fun _ => False) V V.drew) := Lib.hid (Kp.refl V).drew
    have S0 := Lib.hid (hSB.out _ B0.out.up)
    clear hh hG hP hr
    refine wpIn_block ?_
    refine region_round (S := fun U => U.cell? ⟨w.heap.size, 0, none⟩ = some hv) (by kernel_rfl) (by kernel_rfl) (fun ⟨_, _, h⟩ => h) S0.out (fun hHeld => ?_)
    refine take_at (i := 1) (k := 10) (v := hv) rfl rfl (by kernel_rfl) (by kernel_rfl) (by kernel_rfl) (fun _ _ _ h => h) (Or.inl ⟨by rfl, fun w' h => by have a0 := h; go_simp⟩) hHeld ?_
    try simp only [Act.put, List.setIfInBounds_toArray, List.set_cons_zero, List.set_cons_succ]
    refine take_at (i := 2) (k := 11) (v := chV b o n k) rfl rfl (by kernel_rfl) (by kernel_rfl) (by kernel_rfl) (fun _ _ _ h => h) (Or.inl ⟨by rfl, fun w _ => by go_simp⟩) hHeld ?_
    try simp only [Act.put, List.setIfInBounds_toArray, List.set_cons_zero, List.set_cons_succ]
    clear hHeld
    refine wpAnyH_ready (rs := [0, 3]) (by kernel_rfl) (by simp) ?_
    refine AllReadyH.cons rfl (fun K hK => ?_) (AllReadyH.cons rfl (fun K hK => ?_) AllReadyH.nil)
    · rw [if_pos (by rfl)]
      have q1 := (hRB.out _ B0.out.up).1
      go_simp
      clear q1
      refine hK.out _ _ S0.out (fun hHeld => ?_)
      try simp only [Act.put, List.setIfInBounds_toArray, List.set_cons_zero, List.set_cons_succ]
      clear hK K
      clear hHeld
      refine wpAnyH_ready (rs := [3]) (by kernel_rfl) (by simp) ?_
      refine AllReadyH.cons rfl (fun K hK => ?_) AllReadyH.nil
      rw [if_pos (by rfl)]
      go_simp
      go_at_call 56
      refine (hJN.out _ B0.out).mono ?_
      rintro e U2 ⟨rfl, hba2⟩
      have B2 := Lib.hid (B0.out.next hba2)
      have S2 := Lib.hid (hSB.out _ B2.out.up)
      refine hK.out _ _ S2.out (fun hHeld => ?_)
      try simp only [Act.put, List.setIfInBounds_toArray, List.set_cons_zero, List.set_cons_succ]
      clear hK K
      clear hHeld
      refine wpAnyH_ready (rs := [4]) (by kernel_rfl) (by simp) ?_
      refine AllReadyH.cons rfl (fun K hK => ?_) AllReadyH.nil
      rw [if_pos (by rfl)]
      refine bs1_op 12 rfl (joinD (piece l k)) rfl hjl ?_
      rintro U3 hv3 hba3
      have B3 := Lib.hid (B2.out.next hba3)
      have S3 := Lib.hid (hSB.out _ B3.out.up)
      refine hK.out _ _ S3.out (fun hHeld => ?_)
      try simp only [Act.put, List.setIfInBounds_toArray, List.set_cons_zero, List.set_cons_succ]
      clear hK K
      clear hHeld
      refine wpAnyH_ready (rs := [5]) (by kernel_rfl) (by simp) ?_
      refine AllReadyH.cons rfl (fun K hK => ?_) AllReadyH.nil
      rw [if_pos (by rfl)]
      refine add_op 9 13 rfl rv _ rfl rfl ((nextL l).take k) (joinD (piece l k)) (hRO.out _ B3.out) hv3.out hln ?_
      rintro rv2 U4 ho4 hg4 hn4
      obtain ⟨pz, mz, cz, rfl⟩ := own_form3 ho4.out
      have B4 := Lib.hid ((B3.out.up (G := OB rv)).grown hg4 (fun j e => e))
      have S4 := Lib.hid (hSB.out _ B4.out)
      have N4 := Lib.hid (new_of hn4 B3.out.size)
      refine hK.out _ _ S4.out (fun hHeld => ?_)
      try simp only [Act.put, List.setIfInBounds_toArray, List.set_cons_zero, List.set_cons_succ]
      clear hK K
      clear hHeld
      refine wpAnyH_ready (rs := [6]) (by kernel_rfl) (by simp) ?_
      refine AllReadyH.cons rfl (fun K hK => ?_) AllReadyH.nil
      rw [if_pos (by rfl)]
      have q5 := (hRB.out _ B4.out).1
      have p5 := (hRB.out _ B4.out).2
      go_simp
      clear q5 p5
      have S5 := Lib.hid (hST.out _ B4.out (.slice pz mz cz))
      refine hK.out _ _ S5.out (fun hHeld => ?_)
      try simp only [Act.put, List.setIfInBounds_toArray, List.set_cons_zero, List.set_cons_succ]
      clear hK K
      clear hHeld
      refine wpAnyH_done (by kernel_rfl) ?_ _
      gi_wp2
      exact hP2.out.step hR2.out (by omega) B4.out (by rw [HTK.out]; exact ho4.out) N4.out hpl
    · rw [if_pos (by rfl)]
      go_simp
      go_at_call 56
      refine (hJN.out _ B0.out).mono ?_
      rintro e U1 ⟨rfl, hba1⟩
      have B1 := Lib.hid (B0.out.next hba1)
      have S1 := Lib.hid (hSB.out _ B1.out.up)
      refine hK.out _ _ S1.out (fun hHeld => ?_)
      try simp only [Act.put, List.setIfInBounds_toArray, List.set_cons_zero, List.set_cons_succ]
      clear hK K
      clear hHeld
      refine wpAnyH_ready (rs := [0, 4]) (by kernel_rfl) (by simp) ?_
      refine AllReadyH.cons rfl (fun K hK => ?_) (AllReadyH.cons rfl (fun K hK => ?_) AllReadyH.nil)
      · rw [if_pos (by rfl)]
        have q2 := (hRB.out _ B1.out.up).1
        go_simp
        clear q2
        refine hK.out _ _ S1.out (fun hHeld => ?_)
        try simp only [Act.put, List.setIfInBounds_toArray, List.set_cons_zero, List.set_cons_succ]
        clear hK K
        clear hHeld
        refine wpAnyH_ready (rs := [4]) (by kernel_rfl) (by simp) ?_
        refine AllReadyH.cons rfl (fun K hK => ?_) AllReadyH.nil
        rw [if_pos (by rfl)]
        refine bs1_op 12 rfl (joinD (piece l k)) rfl hjl ?_
        rintro U3 hv3 hba3
        have B3 := Lib.hid (B1.out.next hba3)
        have S3 := Lib.hid (hSB.out _ B3.out.up)
        refine hK.out _ _ S3.out (fun hHeld => ?_)
        try simp only [Act.put, List.setIfInBounds_toArray, List.set_cons_zero, List.set_cons_succ]
        clear hK K
        clear hHeld
        refine wpAnyH_ready (rs := [5]) (by kernel_rfl) (by simp) ?_
        refine AllReadyH.cons rfl (fun K hK => ?_) AllReadyH.nil
        rw [if_pos (by rfl)]
        refine add_op 9 13 rfl rv _ rfl rfl ((nextL l).take k) (joinD (piece l k)) (hRO.out _ B3.out) hv3.out hln ?_
        rintro rv2 U4 ho4 hg4 hn4
        obtain ⟨pz, mz, cz, rfl⟩ := own_form3 ho4.out
        have B4 := Lib.hid ((B3.out.up (G := OB rv)).grown hg4 (fun j e => e))
        have S4 := Lib.hid (hSB.out _ B4.out)
        have N4 := Lib.hid (new_of hn4 B3.out.size)
        refine hK.out _ _ S4.out (fun hHeld => ?_)
        try simp only [Act.put, List.setIfInBounds_toArray, List.set_cons_zero, List.set_cons_succ]
        clear hK K
        clear hHeld
        refine wpAnyH_ready (rs := [6]) (by kernel_rfl) (by simp) ?_
        refine AllReadyH.cons rfl (fun K hK => ?_) AllReadyH.nil
        rw [if_pos (by rfl)]
        have q5 := (hRB.out _ B4.out).1
        have p5 := (hRB.out _ B4.out).2
        go_simp
        clear q5 p5
        have S5 := Lib.hid (hST.out _ B4.out (.slice pz mz cz))
        refine hK.out _ _ S5.out (fun hHeld => ?_)
        try simp only [Act.put, List.setIfInBounds_toArray, List.set_cons_zero, List.set_cons_succ]
        clear hK K
        clear hHeld
        refine wpAnyH_done (by kernel_rfl) ?_ _
        gi_wp2
        exact hP2.out.step hR2.out (by omega) B4.out (by rw [HTK.out]; exact ho4.out) N4.out hpl
      · rw [if_pos (by rfl)]
        refine bs1_op 12 rfl (joinD (piece l k)) rfl hjl ?_
        rintro U2 hv2 hba2
        have B2 := Lib.hid (B1.out.next hba2)
        have S2 := Lib.hid (hSB.out _ B2.out.up)
        refine hK.out _ _ S2.out (fun hHeld => ?_)
        try simp only [Act.put, List.setIfInBounds_toArray, List.set_cons_zero, List.set_cons_succ]
        clear hK K
        clear hHeld
        refine wpAnyH_ready (rs := [0]) (by kernel_rfl) (by simp) ?_
        refine AllReadyH.cons rfl (fun K hK => ?_) AllReadyH.nil
        rw [if_pos (by rfl)]
        have q3 := (hRB.out _ B2.out.up).1
        go_simp
        clear q3
        refine hK.out _ _ S2.out (fun hHeld => ?_)
        try simp only [Act.put, List.setIfInBounds_toArray, List.set_cons_zero, List.set_cons_succ]
        clear hK K
        clear hHeld
        refine wpAnyH_ready (rs := [5]) (by kernel_rfl) (by simp) ?_
        refine AllReadyH.cons rfl (fun K hK => ?_) AllReadyH.nil
        rw [if_pos (by rfl)]
        refine add_op 9 13 rfl rv _ rfl rfl ((nextL l).take k) (joinD (piece l k)) (hRO.out _ B2.out) hv2.out hln ?_
        rintro rv2 U4 ho4 hg4 hn4
        obtain ⟨pz, mz, cz, rfl⟩ := own_form3 ho4.out
        have B4 := Lib.hid ((B2.out.up (G := OB rv)).grown hg4 (fun j e => e))
        have S4 := Lib.hid (hSB.out _ B4.out)
        have N4 := Lib.hid (new_of hn4 B2.out.size)
        refine hK.out _ _ S4.out (fun hHeld => ?_)
        try simp only [Act.put, List.setIfInBounds_toArray, List.set_cons_zero, List.set_cons_succ]
        clear hK K
        clear hHeld
        refine wpAnyH_ready (rs := [6]) (by kernel_rfl) (by simp) ?_
        refine AllReadyH.cons rfl (fun K hK => ?_) AllReadyH.nil
        rw [if_pos (by rfl)]
        have q5 := (hRB.out _ B4.out).1
        have p5 := (hRB.out _ B4.out).2
        go_simp
        clear q5 p5
        have S5 := Lib.hid (hST.out _ B4.out (.slice pz mz cz))
        refine hK.out _ _ S5.out (fun hHeld => ?_)
        try simp only [Act.put, List.setIfInBounds_toArray, List.set_cons_zero, List.set_cons_succ]
        clear hK K
        clear hHeld
        refine wpAnyH_done (by kernel_rfl) ?_ _
        gi_wp2
        exact hP2.out.step hR2.out (by omega) B4.out (by rw [HTK.out]; exact ho4.out) N4.out hpl
  case done =>
    rintro D V hD hP hK
    have hP2 := Lib.hid hP
    obtain ⟨rv, hr⟩ := hP.r
    rw [chL_len, List.take_of_length_le (by rw [nextL_len, HN.out]; exact Nat.le_refl _)] at hr
    obtain ⟨pr, cr, rfl⟩ := own_form hr.2.2.1
    have k0 := hr.1
    have kf := hr.2.1
    have HR := Lib.hid hr
    clear hr hP
    gi_wp2
    have hs := hP2.out.size
    have hK' := (KeepsOthers.setCell V ⟨w.heap.size + 1, 0, none⟩ (.slice pr (nextL l).length cr)).same D _ hK rfl
    refine ⟨by simp, .inl ⟨_, _, rfl, run_takeDeferred hK', ?_⟩⟩
    have hc5 := cell_kept (World.cell?_setCell_same' V ⟨w.heap.size + 1, 0, none⟩ (.slice pr (nextL l).length cr) (by rw [k0]; rfl)) (grownBy_putObj' _ D (.deferred none)) (fun r e => by cases e; exact ⟨_, hK', rfl⟩)
    have hb5 : Below w.heap.size w (V.setCell ⟨w.heap.size + 1, 0, none⟩ (.slice pr (nextL l).length cr)) := below_set hP2.out.below (Nat.le_succ _) _
    have hBW := hb5.trans (belowK_b (w := w) (Nat.le_refl _) _ D _ (.deferred none) (by omega) hK' rfl rfl)
    have hO : OwnN 32 ((V.setCell ⟨w.heap.size + 1, 0, none⟩ (.slice pr (nextL l).length cr)).putObj D (.deferred none)) (.slice pr (nextL l).length cr) (nextL l).length (fl (nextL l)) := HR.out.2.2.1.keep (by simp) fun j hj => by
      have h1 := HR.out.2.2.2.1 j hj
      obtain ⟨cs, t, fr, hcs⟩ := HR.out.2.2.2.2 j hj
      rw [World.putObj_heap_other (fun e => by subst e; rw [hcs] at hK; cases hK)]
      exact Below.heap_setCell _ _ _ _ (by simp only; omega)
    refine ⟨.slice pr (nextL l).length cr, ?_, _, rfl, Lib.hid ⟨hO, fun j hj => by have := HR.out.2.2.2.1 j hj; omega, hBW⟩⟩
    simp [results, Tryd.f43, go_sem, hc5]
  case stop =>
    rintro D c V hD hx hK
    exact hx.elim
end Go.Proofs.YteeabenmfmeooaaDoor
