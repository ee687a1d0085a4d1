/-
  Merkle: what the row's datum gives a walk: the constants; slices of bytes, of digests, of slices of bytes as arguments.
-/
import Derived.Test.YteeabenmfmeooaaDoorRows
import Derived.Test.YteeabenmfmeooaaDoorFr
import Derived.ProofKit
import Derived.Lib.SmallJoins
import Derived.Deep.Slices
import Derived.LaidMore
import Derived.OpenShut
import Derived.Stop.Joined
namespace Go.Proofs.YteeabenmfmeooaaDoor
open Go Go.ChangeShapes Go.WideShapes Go.ChangeAt Go.WideMaps Go.WideElems Go.RowKit Go.Joins
theorem Tryd.own : ownKnob Tryd.prog.godebug = none := by kernel_rfl
theorem Tryd.laidOut : laidOutB Tryd.prog = true := by kernel_rfl
theorem gConst : Tryd.prog.globalNamed "podium/digest.constants" = some 0 := by kernel_rfl
theorem tConst : (Tryd.prog.globals[0]?).map (·.type) = some 76 := by kernel_rfl
def laidD : List (String × DataW Unit) := [("podium/digest.constants", Rows.laid_podium_digest_constants)]
theorem laid_kcs : (Rows.laid_podium_digest_constants : DataW Unit) = .agg (kcs.map fun k => .lit (.int .u32 k)) := by kernel_rfl
theorem c72 : Tryd.prog.cellsOf 72 = 1 := by kernel_rfl
theorem kok_of_laid {W : World} (h : laidMetH Tryd.prog laidD W) : KOK W := by
  rw [MakeChecks.laidMetH_plain _ _ _ (by kernel_rfl)] at h
  obtain ⟨ps, ⟨g0, t0, cs0, f0, p0, q0, hg0, ht0, hv0, hd0, _, _⟩, _, _⟩ := h
  obtain rfl := Option.some.inj (gConst.symm.trans hg0)
  obtain rfl := Option.some.inj (tConst.symm.trans ht0)
  obtain ⟨xs, m1, rfl, hx1, hlen, hn, hel⟩ := DataW.trod_array Tryd.underlying76 hd0
  rw [laid_kcs] at hx1
  simp only [Prod.mk.injEq, DataW.agg.injEq] at hx1
  have hcell : ∀ t, t < 64 → W.cell? ⟨0, t, none⟩ = some (.int .u32 (kc t)) := fun t ht => by
    have h0 := hel t ht
    have hxt : t < xs.length := by omega
    rw [List.getElem?_eq_getElem hxt] at h0
    obtain ⟨k, e1, e2, _⟩ := DataW.trod_int Tryd.underlying72 (show DataW.trod _ Tryd.prog W 0 _ false m1 72 _ = some xs[t] from h0)
    have hk : (kcs.map fun k => (DataW.lit (.int .u32 k) : DataW Unit))[t]? = some (.lit (.int .u32 k)) := by
      rw [hx1.1, List.getElem?_map, List.getElem?_eq_getElem hxt, e2]
      rfl
    rw [c72, Nat.mul_one] at e1
    rw [World.var?_cell hg0 hv0 t]
    have e3 : cs0[t]? = some (.int .u32 k) := by
      have : (cs0.toList.drop t)[0]? = some (.int .u32 k) := by
        have h9 : ((cs0.toList.drop t).take 1)[0]? = some (Value.int .u32 k) := by rw [e1]; rfl
        rw [List.getElem?_take] at h9
        simpa using h9
      rw [List.getElem?_drop] at this
      simpa using this
    rw [e3]
    rw [List.getElem?_map] at hk
    unfold kc
    cases hq : kcs[t]? with
    | none => rw [hq] at hk; cases hk
    | some q =>
      rw [hq] at hk
      simp only [Option.map_some, Option.some.injEq, DataW.lit.injEq, Lit.int.injEq, true_and] at hk
      simp [List.getD, hq, hk]
  exact ⟨World.block_lt_of_cell? W _ (hcell 0 (by omega)), hcell⟩
theorem door_met (os : Os) (args : Array Value) : laidMetH Tryd.prog laidD ((World.doorLaid Tryd.prog 400 os).forCall (fun _ _ => 0) ⟨#[], args, []⟩).memory :=
  laidMetH_of_parts3 (fuel := 8) (laidMet_of_run' 8 (by kernel_rfl) (by kernel_rfl)) (by kernel_rfl) (by kernel_rfl)
theorem cells5o : Tryd.prog.cellsOf 5 = 1 := by kernel_rfl
theorem c30 : Tryd.prog.cellsOf 30 = 32 := by kernel_rfl
theorem c34 : Tryd.prog.cellsOf 34 = 1 := by kernel_rfl
theorem u8_wf {n : Int} (h : (Lit.int .u8 n).wf = true) : 0 ≤ n ∧ n < 256 := by
  have e := h
  have e1 : IntKind.u8.min = 0 := by decide +kernel
  have e2 : IntKind.u8.max = 255 := by decide +kernel
  simp only [Lit.wf, Bool.and_eq_true, decide_eq_true_eq, e1, e2] at e
  omega
theorem w64_of {k : Int} (h : (Lit.int .i64 k).wf = true) : -9223372036854775808 ≤ k ∧ k ≤ 9223372036854775807 := by
  have e := h
  have e1 : IntKind.i64.min = -9223372036854775808 := by decide +kernel
  have e2 : IntKind.i64.max = 9223372036854775807 := by decide +kernel
  simp only [Lit.wf, Bool.and_eq_true, decide_eq_true_eq, e1, e2] at e
  exact e
/-- a list of elements out of what each of them is -/
theorem list_of {α : Type} {P : Nat → α → Prop} : ∀ (n o : Nat), (∀ i, i < n → ∃ x, P (o + i) x) → ∃ l : List α, l.length = n ∧ ∀ (j : Nat) (x : α), l[j]? = some x → P (o + j) x
  | 0, _, _ => ⟨[], rfl, fun j x h => by simp at h⟩
  | n + 1, o, h => by
    obtain ⟨x, hx⟩ := h 0 (by omega)
    obtain ⟨l, hl, hp⟩ := list_of n (o + 1) (fun i hi => by
      obtain ⟨x, hx⟩ := h (i + 1) (by omega)
      exact ⟨x, by rw [show o + 1 + i = o + (i + 1) by omega]; exact hx⟩)
    refine ⟨x :: l, by simp [hl], fun j y hj => ?_⟩
    cases j with
    | zero => cases hj; exact hx
    | succ j => rw [show o + (j + 1) = o + 1 + j by omega]; exact hp j y hj
theorem range_fl {w : World} {b : Nat} : ∀ (l : List (List UInt8)) (o : Nat), D32 l → (∀ i d, l[i]? = some d → w.rangeAt b (o + i * 32) (d.map byt)) → w.rangeAt b o (fl l)
  | [], _, _, _ => fun j u hj => by simp [fl] at hj
  | d :: r, o, h32, h => fun j u hj => by
    have hd : (d.map byt).length = 32 := by rw [List.length_map]; exact h32 d (List.mem_cons_self ..)
    have e : fl (d :: r) = d.map byt ++ fl r := by simp [fl]
    rw [e] at hj
    by_cases hlt : j < 32
    · rw [List.getElem?_append_left (by omega)] at hj
      have := h 0 d rfl j u hj
      rwa [Nat.zero_mul, Nat.add_zero] at this
    · rw [List.getElem?_append_right (by omega), hd] at hj
      have := range_fl r (o + 32) (fun x hx => h32 x (List.mem_cons_of_mem _ hx)) (fun i x hx => by
        have := h (i + 1) x hx
        rwa [show o + (i + 1) * 32 = o + 32 + i * 32 by omega] at this) (j - 32) u hj
      rwa [show o + 32 + (j - 32) = o + j by omega] at this
section
variable {H : Type} {enc : TypeId × Value → H} {W : World} {base : Nat} {sp : Nat → Bool} {hd : Bool}
theorem bv_of_raw {fuel : Nat} {u : Value} {x : DataW H × List MemPlace} (hf : DataW.trod enc Tryd.prog W base sp hd fuel 34 [u] = some x) : ∃ l : List UInt8, BV W u l := by
  rcases open_ints Tryd.underlying34 Tryd.underlying5 cells5o hf with ⟨hcs, hx⟩ | ⟨a, len, cap, zs, hcs, _, hl, hm, hz, hx, hcell, hwz⟩
  · obtain rfl : u = .slice none 0 0 := by simpa using hcs
    exact ⟨[], own_bv (Own.nil W)⟩
  · obtain rfl : u = .slice (some a) len cap := by simpa using hcs
    have hz' : len ≤ zs.length := by rw [hz]; split <;> omega
    obtain ⟨b, o, spot⟩ := a
    have hm' : cap ≤ 9223372036854775807 := by unfold maxLen at hm; omega
    have hlen : ((zs.take len).map fun n => UInt8.ofNat n.toNat).length = len := by simp; omega
    refine ⟨(zs.take len).map fun n => UInt8.ofNat n.toNat, b, cap, some ⟨b, o, spot⟩, by rw [hlen], by rw [hlen]; exact hl, hm', (fun e => by cases e), ?_⟩
    by_cases h0 : len = 0
    · subst h0
      exact .inl (by simp)
    · have hspot : spot = none := by simpa [Addr.add] using World.cell?_spot (hcell 0 (by omega))
      subst hspot
      refine .inr ⟨o, rfl, ?_, fun j c hj => ?_⟩
      · exact World.block_lt_of_cell? W _ (hcell 0 (by omega))
      · have hjl : j < len := by
          rcases Nat.lt_or_ge j len with h | h
          · exact h
          · rw [List.getElem?_eq_none (by rw [hlen]; exact h)] at hj
            cases hj
        have hcj := hcell j (by omega)
        rw [Addr.add_lit] at hcj
        rw [hcj]
        have e : zs.getD j 0 = zs[j]'(by omega) := by simp [List.getD, List.getElem?_eq_getElem (show j < zs.length by omega)]
        have hr := u8_wf (hwz _ (List.getElem_mem (show j < zs.length by omega)))
        rw [e]
        rw [List.getElem?_map, List.getElem?_take, if_pos hjl, List.getElem?_eq_getElem (by omega)] at hj
        simp only [Option.map_some, Option.some.injEq] at hj
        subst hj
        unfold byt
        congr 2
        rw [UInt8.toNat_ofNat']
        omega
theorem dg_of_raw {m : Nat} {cs : List Value} {y : DataW H × List MemPlace} (hy : DataW.trod enc Tryd.prog W base sp hd m 30 cs = some y) : ∃ g : List UInt8, cs = g.map byt ∧ g.length = 32 := by
  obtain ⟨xs, m1, rfl, hx1, hlen, hn, hel⟩ := DataW.trod_array Tryd.underlying30 hy
  rw [c30] at hlen
  have hc : ∀ i, i < 32 → ∃ k : Int, cs[i]? = some (.int .u8 k) ∧ 0 ≤ k ∧ k < 256 := fun i hi => by
    have h0 := hel i hi
    have hxt : i < xs.length := by omega
    rw [List.getElem?_eq_getElem hxt] at h0
    obtain ⟨k, e1, _, hw⟩ := DataW.trod_int Tryd.underlying5 (show DataW.trod _ Tryd.prog W base _ hd m1 5 _ = some xs[i] from h0)
    rw [cells5o, Nat.mul_one] at e1
    refine ⟨k, ?_, u8_wf hw⟩
    have : (cs.drop i)[0]? = some (.int .u8 k) := by
      have h9 : ((cs.drop i).take 1)[0]? = some (Value.int .u8 k) := by rw [e1]; rfl
      rw [List.getElem?_take] at h9
      simpa using h9
    rw [List.getElem?_drop] at this
    simpa using this
  refine ⟨cs.map fun v => UInt8.ofNat (intOf v).toNat, ?_, by simp [hlen]⟩
  apply List.ext_getElem?
  intro i
  by_cases hi : i < 32
  · obtain ⟨k, e, k0, k1⟩ := hc i hi
    rw [e, List.getElem?_map, List.getElem?_map, e]
    simp only [Option.map_some]
    congr 1
    unfold byt
    congr 1
    rw [UInt8.toNat_ofNat']
    simp only [intOf]
    omega
  · rw [List.getElem?_eq_none (by omega), List.getElem?_eq_none (by simp [hlen]; omega)]
theorem ld_of_raw {fuel : Nat} {L : Value} {x : DataW H × List MemPlace} (h : DataW.trod enc Tryd.prog W base sp hd fuel 25 [L] = some x) : ∃ s, LD W L s ∧ D32 s := by
  rcases DataW.trod_slice Tryd.underlying25 h with ⟨hc, _⟩ | ⟨a, len, cap, elems, rest, n, hn, hcs, _, hb, hl, hm, hlen, hel, _, _⟩
  · obtain rfl : L = .slice none 0 0 := by simpa using hc
    exact ⟨[], ⟨0, 0, none, rfl, Nat.le_refl _, Nat.zero_le _, fun _ => rfl, .inl rfl⟩, fun d hd => by cases hd⟩
  · obtain rfl : L = .slice (some a) len cap := by simpa using hcs
    rw [c30] at hel
    by_cases h0 : len = 0
    · subst h0
      exact ⟨[], ⟨0, cap, some a, rfl, Nat.zero_le _, hm, (fun e => by cases e), .inl rfl⟩, fun d hd => by cases hd⟩
    obtain ⟨b, o, spot⟩ := a
    have one : ∀ i, i < len → ∃ cs y, W.cells? base ((⟨b, o, spot⟩ : Addr).add (i * 32)) 32 = some cs ∧ DataW.trod enc Tryd.prog W base sp hd n 30 cs = some y := fun i hi => by
      have key := hel i hi
      rw [List.getElem?_eq_getElem (by omega)] at key
      obtain ⟨cs', h1, h2⟩ := Option.bind_eq_some_iff.1 key
      exact ⟨cs', _, h1, h2⟩
    obtain ⟨cs0, y0, hc0, _⟩ := one 0 (by omega)
    obtain ⟨_, hl0, hcell0⟩ := World.cells?_some hc0
    have h10 := hcell0 0 (by omega)
    rw [List.getElem?_eq_getElem (by omega)] at h10
    have hsp : spot = none := by simpa [Addr.add] using World.cell?_spot h10
    subst hsp
    have hblk : b < W.heap.size := World.block_lt_of_cell? W ((⟨b, o, none⟩ : Addr).add (0 * 32) |>.add 0) h10
    obtain ⟨s, hs, hp⟩ := list_of (P := fun i (x : List UInt8) => x.length = 32 ∧ W.rangeAt b (o + i * 32) (x.map byt)) len 0 (fun i hi => by
      obtain ⟨cs, y, hc, hy⟩ := one i hi
      obtain ⟨_, hl2, hcell⟩ := World.cells?_some hc
      obtain ⟨g, rfl, hg⟩ := dg_of_raw hy
      refine ⟨g, hg, fun j u hj => ?_⟩
      have hj32 : j < 32 := by
        have := (List.getElem?_eq_some_iff.1 hj).1
        rw [List.length_map] at this
        omega
      have := hcell j hj32
      simp only [add_plain] at this
      rw [Nat.zero_add, this, hj])
    have h32 : D32 s := fun d hd => by
      obtain ⟨j, hj⟩ := List.mem_iff_getElem?.1 hd
      exact (hp j d hj).1
    refine ⟨s, ⟨b, cap, some ⟨b, o, none⟩, by rw [hs], by rw [hs]; exact hl, hm, (fun e => by cases e), .inr ⟨o, rfl, hblk, range_fl s o h32 fun i d hd => ?_⟩⟩, h32⟩
    have := (hp i d hd).2
    rwa [Nat.zero_add] at this
theorem lb_of_raw {fuel : Nat} {L : Value} {x : DataW H × List MemPlace} (h : DataW.trod enc Tryd.prog W base sp hd fuel 22 [L] = some x) : ∃ s, LB W L s := by
  rcases DataW.trod_slice Tryd.underlying22 h with ⟨hc, _⟩ | ⟨a, len, cap, elems, rest, n, hn, hcs, _, hb, hl, hm, hlen, hel, _, _⟩
  · obtain rfl : L = .slice none 0 0 := by simpa using hc
    exact ⟨[], 0, 0, none, rfl, Nat.le_refl _, Nat.zero_le _, fun _ => rfl, .inl rfl⟩
  · obtain rfl : L = .slice (some a) len cap := by simpa using hcs
    rw [c34] at hel
    by_cases h0 : len = 0
    · subst h0
      exact ⟨[], 0, cap, some a, rfl, Nat.zero_le _, hm, (fun e => by cases e), .inl rfl⟩
    obtain ⟨b, o, spot⟩ := a
    have one : ∀ i, i < len → ∃ cs y, W.cells? base ((⟨b, o, spot⟩ : Addr).add (i * 1)) 1 = some cs ∧ DataW.trod enc Tryd.prog W base sp hd n 34 cs = some y := fun i hi => by
      have key := hel i hi
      rw [List.getElem?_eq_getElem (by omega)] at key
      obtain ⟨cs', h1, h2⟩ := Option.bind_eq_some_iff.1 key
      exact ⟨cs', _, h1, h2⟩
    obtain ⟨cs0, y0, hc0, _⟩ := one 0 (by omega)
    obtain ⟨_, hl0, hcell0⟩ := World.cells?_some hc0
    have h10 := hcell0 0 (by omega)
    rw [List.getElem?_eq_getElem (by omega)] at h10
    have hsp : spot = none := by simpa [Addr.add] using World.cell?_spot h10
    subst hsp
    have hblk : b < W.heap.size := World.block_lt_of_cell? W ((⟨b, o, none⟩ : Addr).add (0 * 1) |>.add 0) h10
    obtain ⟨s, hs, hp⟩ := list_of (P := fun i (x : List UInt8) => ∃ u, W.cell? ⟨b, o + i, none⟩ = some u ∧ BV W u x) len 0 (fun i hi => by
      obtain ⟨cs, y, hc, hy⟩ := one i hi
      obtain ⟨_, hl2, hcell⟩ := World.cells?_some hc
      match cs, hl2 with
      | [u], _ =>
        obtain ⟨l, hbv⟩ := bv_of_raw hy
        have c0 := hcell 0 (by omega)
        simp only [add_plain, Nat.mul_one] at c0
        rw [Nat.zero_add]
        exact ⟨l, u, c0, hbv⟩)
    refine ⟨s, b, cap, some ⟨b, o, none⟩, by rw [hs], by rw [hs]; exact hl, hm, (fun e => by cases e), .inr ⟨o, rfl, hblk, fun j x hj => ?_⟩⟩
    have := hp j x hj
    rwa [Nat.zero_add] at this
theorem bytes_of_trod {r : Reach} {b0 : Nat} {v : Value} {d : DataW H} {p : List MemPlace} (hval : Value.okWide Tryd.prog W r b0 34 v) (h : DataW.Trod enc Tryd.prog W base sp hd 34 v d p) : ∃ l : List UInt8, BV W v l := by
  obtain ⟨a1, len, cap, rfl⟩ := okWide_slice Tryd.underlying34 hval
  obtain ⟨fuel, hf⟩ := h
  exact bv_of_raw (fuel := fuel) hf
theorem ld_of_trod {r : Reach} {b0 : Nat} {v : Value} {d : DataW H} {p : List MemPlace} (hval : Value.okWide Tryd.prog W r b0 25 v) (h : DataW.Trod enc Tryd.prog W base sp hd 25 v d p) : ∃ s, LD W v s ∧ D32 s := by
  obtain ⟨a1, len, cap, rfl⟩ := okWide_slice Tryd.underlying25 hval
  obtain ⟨fuel, hf⟩ := h
  exact ld_of_raw (fuel := fuel) hf
theorem lb_of_trod {r : Reach} {b0 : Nat} {v : Value} {d : DataW H} {p : List MemPlace} (hval : Value.okWide Tryd.prog W r b0 22 v) (h : DataW.Trod enc Tryd.prog W base sp hd 22 v d p) : ∃ s, LB W v s := by
  obtain ⟨a1, len, cap, rfl⟩ := okWide_slice Tryd.underlying22 hval
  obtain ⟨fuel, hf⟩ := h
  exact lb_of_raw (fuel := fuel) hf
end
end Go.Proofs.YteeabenmfmeooaaDoor
