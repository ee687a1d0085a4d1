/-
  The arguments of the disk's statements, opened.
-/
import Derived.Test.YtanmhjbeookfiaaDk
import Derived.Test.YtanmhjbeookfiaaChecked
import Derived.ProofKit
import Derived.Lib.SmallJoins
import Derived.Deep.Slices
namespace Go.Proofs.Ytanmhjbeookfiaa
open Go Go.RowKit Go.ChangeShapes Go.WideShapes Go.ChangeAt Go.Joins
theorem cells25 : Try.prog.cellsOf 25 = 4 := by kernel_rfl
theorem cells54 : Try.prog.cellsOf 54 = 2 := by kernel_rfl
theorem cells35 : Try.prog.cellsOf 35 = 1 := by kernel_rfl
theorem cells3 : Try.prog.cellsOf 3 = 1 := by kernel_rfl
theorem cells4 : Try.prog.cellsOf 4 = 1 := by kernel_rfl
theorem cells5 : Try.prog.cellsOf 5 = 1 := by kernel_rfl
theorem w64_of {k : Int} (h : (Lit.int .i64 k).wf = true) : W64 k := by
  have e := h
  have e1 : IntKind.i64.min = -9223372036854775808 := by decide +kernel
  have e2 : IntKind.i64.max = 9223372036854775807 := by decide +kernel
  simp only [Lit.wf, Bool.and_eq_true, decide_eq_true_eq, e1, e2] at e
  exact e
theorem u8_wf {n : Int} (h : (Lit.int .u8 n).wf = true) : 0 ≤ n ∧ n < 256 := by
  have e := h
  have e1 : IntKind.u8.min = 0 := by decide +kernel
  have e2 : IntKind.u8.max = 255 := by decide +kernel
  simp only [Lit.wf, Bool.and_eq_true, decide_eq_true_eq, e1, e2] at e
  omega
section
variable {H : Type} {enc : TypeId × Value → H} {W : World} {base : Nat} {sp : Nat → Bool} {hd : Bool}
theorem bv_of_raw {fuel : Nat} {u : Value} {x : DataW H × List MemPlace} (hf : DataW.trod enc Try.prog W base sp hd fuel 35 [u] = some x) : ∃ l : List UInt8, BV W u l := by
  rcases open_ints Try.underlying35 Try.underlying5 cells5 hf with ⟨hcs, hx⟩ | ⟨a, len, cap, zs, hcs, _, hl, hm, hz, hx, hcell, hwz⟩
  · obtain rfl : u = .slice none 0 0 := by simpa using hcs
    exact ⟨[], nil_BV W⟩
  · obtain rfl : u = .slice (some a) len cap := by simpa using hcs
    have hz' : len ≤ zs.length := by rw [hz]; split <;> omega
    obtain ⟨b, o, spot⟩ := a
    have hlen : ((zs.take len).map fun n => UInt8.ofNat n.toNat).length = len := by simp; omega
    refine ⟨(zs.take len).map fun n => UInt8.ofNat n.toNat, b, cap, some ⟨b, o, spot⟩, by rw [hlen], by rw [hlen]; exact hl, hm, (fun e => by cases e), ?_⟩
    by_cases h0 : len = 0
    · subst h0
      exact .inl (by simp)
    · have hspot : spot = none := by simpa [Addr.add] using World.cell?_spot (hcell 0 (by omega))
      subst hspot
      refine .inr ⟨o, rfl, ?_, fun j c hj => ?_⟩
      · exact World.block_lt_of_cell? W _ (hcell 0 (by omega))
      · have hjl : j < len := by
          rcases Nat.lt_or_ge j len with h | h
          · exact h
          · rw [List.getElem?_eq_none (by rw [hlen]; exact h)] at hj
            cases hj
        have hcj := hcell j (by omega)
        rw [Addr.add_lit] at hcj
        rw [hcj]
        have e : zs.getD j 0 = zs[j]'(by omega) := by simp [List.getD, List.getElem?_eq_getElem (show j < zs.length by omega)]
        have hr := u8_wf (hwz _ (List.getElem_mem (show j < zs.length by omega)))
        rw [e]
        rw [List.getElem?_map, List.getElem?_take, if_pos hjl, List.getElem?_eq_getElem (by omega)] at hj
        simp only [Option.map_some, Option.some.injEq] at hj
        subst hj
        unfold byt
        congr 2
        rw [UInt8.toNat_ofNat']
        omega
/-- a list of elements out of what each of them is -/
theorem list_of {α : Type} {P : Nat → α → Prop} : ∀ (n o : Nat), (∀ i, i < n → ∃ x, P (o + i) x) → ∃ l : List α, l.length = n ∧ ∀ (j : Nat) (x : α), l[j]? = some x → P (o + j) x
  | 0, _, _ => ⟨[], rfl, fun j x h => by simp at h⟩
  | n + 1, o, h => by
    obtain ⟨x, hx⟩ := h 0 (by omega)
    obtain ⟨l, hl, hp⟩ := list_of n (o + 1) (fun i hi => by
      obtain ⟨x, hx⟩ := h (i + 1) (by omega)
      exact ⟨x, by rw [show o + 1 + i = o + (i + 1) by omega]; exact hx⟩)
    refine ⟨x :: l, by simp [hl], fun j y hj => ?_⟩
    cases j with
    | zero => cases hj; exact hx
    | succ j => rw [show o + (j + 1) = o + 1 + j by omega]; exact hp j y hj
theorem sv_of_raw {fuel : Nat} {L : Value} {x : DataW H × List MemPlace} (h : DataW.trod enc Try.prog W base sp hd fuel 22 [L] = some x) : ∃ s, SV W L s := by
  rcases DataW.trod_slice Try.underlying22 h with ⟨hc, _⟩ | ⟨a, len, cap, elems, rest, n, hn, hcs, _, hb, hl, hm, hlen, hel, _, _⟩
  · obtain rfl : L = .slice none 0 0 := by simpa using hc
    exact ⟨[], nil_SV W⟩
  · obtain rfl : L = .slice (some a) len cap := by simpa using hcs
    rw [cells35] at hel
    by_cases h0 : len = 0
    · subst h0
      exact ⟨[], 0, cap, some a, rfl, Nat.zero_le _, hm, (fun e => by cases e), .inl rfl⟩
    obtain ⟨b, o, spot⟩ := a
    have one : ∀ i, i < len → ∃ u y, W.cells? base ((⟨b, o, spot⟩ : Addr).add (i * 1)) 1 = some [u] ∧ DataW.trod enc Try.prog W base sp hd n 35 [u] = some y := fun i hi => by
      have key := hel i hi
      rw [List.getElem?_eq_getElem (by omega)] at key
      obtain ⟨cs', h1, h2⟩ := Option.bind_eq_some_iff.1 key
      obtain ⟨_, hl1, _⟩ := World.cells?_some h1
      match cs', hl1 with
      | [u], _ => exact ⟨u, _, h1, h2⟩
    have cell : ∀ i, i < len → ∃ u, W.cell? ((⟨b, o, spot⟩ : Addr).add i) = some u ∧ ∃ l, BV W u l := fun i hi => by
      obtain ⟨u, y, h1, h2⟩ := one i hi
      obtain ⟨_, _, hcell⟩ := World.cells?_some h1
      have h3 := hcell 0 (by simp)
      rw [Nat.mul_one] at h3
      obtain ⟨l, hbv⟩ := bv_of_raw h2
      exact ⟨u, by simpa [Addr.add] using h3, l, hbv⟩
    obtain ⟨u0, hu0, _⟩ := cell 0 (by omega)
    have hsp : spot = none := by simpa [Addr.add] using World.cell?_spot hu0
    subst hsp
    obtain ⟨s, hs, hp⟩ := list_of (P := fun i l => ∃ u, W.cell? ⟨b, o + i, none⟩ = some u ∧ BV W u l) len 0 (fun i hi => by
      obtain ⟨u, h1, l, h2⟩ := cell i hi
      rw [Addr.add_lit] at h1
      exact ⟨l, u, by rw [Nat.zero_add]; exact h1, h2⟩)
    refine ⟨s, b, cap, some ⟨b, o, none⟩, by rw [hs], by rw [hs]; exact hl, hm, (fun e => by cases e), .inr ⟨o, rfl, World.block_lt_of_cell? W _ hu0, fun j l hj => ?_⟩⟩
    have := hp j l hj
    rwa [Nat.zero_add] at this
theorem pv_of_raw {fuel : Nat} {L : Value} {x : DataW H × List MemPlace} (h : DataW.trod enc Try.prog W base sp hd fuel 23 [L] = some x) : ∃ s, PV W L s := by
  rcases DataW.trod_slice Try.underlying23 h with ⟨hc, _⟩ | ⟨a, len, cap, elems, rest, n, hn, hcs, _, hb, hl, hm, hlen, hel, _, _⟩
  · obtain rfl : L = .slice none 0 0 := by simpa using hc
    exact ⟨[], nil_PV W⟩
  · obtain rfl : L = .slice (some a) len cap := by simpa using hcs
    rw [cells54] at hel
    by_cases h0 : len = 0
    · subst h0
      exact ⟨[], 0, cap, some a, rfl, Nat.zero_le _, hm, (fun e => by cases e), .inl rfl⟩
    obtain ⟨b, o, spot⟩ := a
    have one : ∀ i, i < len → ∃ cs y, W.cells? base ((⟨b, o, spot⟩ : Addr).add (i * 2)) 2 = some cs ∧ DataW.trod enc Try.prog W base sp hd n 54 cs = some y := fun i hi => by
      have key := hel i hi
      rw [List.getElem?_eq_getElem (by omega)] at key
      obtain ⟨cs', h1, h2⟩ := Option.bind_eq_some_iff.1 key
      exact ⟨cs', _, h1, h2⟩
    obtain ⟨cs0, y0, hc0, _⟩ := one 0 (by omega)
    obtain ⟨_, hl0, hcell0⟩ := World.cells?_some hc0
    have h10 := hcell0 0 (by omega)
    rw [List.getElem?_eq_getElem (by omega)] at h10
    have hsp : spot = none := by simpa [Addr.add] using World.cell?_spot h10
    subst hsp
    have hblk : b < W.heap.size := World.block_lt_of_cell? W ((⟨b, o, none⟩ : Addr).add (0 * 2) |>.add 0) h10
    obtain ⟨s, hs, hp⟩ := list_of (P := fun i (x : Int × List UInt8) => ∃ u, W.cell? ⟨b, o + i * 2, none⟩ = some (.int .i64 x.1) ∧ W.cell? ⟨b, o + i * 2 + 1, none⟩ = some u ∧ W64 x.1 ∧ BV W u x.2) len 0 (fun i hi => by
      obtain ⟨cs, y, hc, hy⟩ := one i hi
      obtain ⟨_, hl2, hcell⟩ := World.cells?_some hc
      obtain ⟨xs, m, hm', _, hlc, hlx, hf⟩ := DataW.trod_struct Try.underlying54 hy
      match cs, hl2 with
      | [v0, v1], _ =>
        have hx2 : xs.length = 2 := hlx
        have g0 := hf 0 _ rfl
        have g1 := hf 1 _ rfl
        rw [List.getElem?_eq_getElem (by omega)] at g0 g1
        replace g0 : DataW.trod enc Try.prog W base sp hd m 3 (([v0, v1].drop 0).take (Try.prog.cellsOf 3)) = some xs[0] := g0
        replace g1 : DataW.trod enc Try.prog W base sp hd m 35 (([v0, v1].drop 1).take (Try.prog.cellsOf 35)) = some xs[1] := g1
        rw [cells3] at g0
        rw [cells35] at g1
        obtain ⟨k, e0, _, wk⟩ := DataW.trod_int Try.underlying3 g0
        obtain ⟨l, hbv⟩ := bv_of_raw (u := v1) g1
        obtain rfl : v0 = .int .i64 k := by simpa using e0
        have c0 := hcell 0 (by omega)
        have c1 := hcell 1 (by omega)
        simp only [add_plain] at c0 c1
        rw [Nat.zero_add]
        exact ⟨(k, l), v1, c0, c1, w64_of wk, hbv⟩)
    refine ⟨s, b, cap, some ⟨b, o, none⟩, by rw [hs], by rw [hs]; exact hl, hm, (fun e => by cases e), .inr ⟨o, rfl, hblk, fun j x hj => ?_⟩⟩
    have := hp j x hj
    rwa [Nat.zero_add] at this
/-- a disk that is read, as an argument -/
theorem dv_of_trod {r : Reach} {b0 : Nat} {v : Value} {d : DataW H} {p : List MemPlace} (hv : Value.okWide Try.prog W r b0 25 v) (h : DataW.Trod enc Try.prog W base sp hd 25 v d p) : ∃ x, DV W v x := by
  obtain ⟨v0, v1, v2, v3, y0, y1, y2, y3, m, rfl, _, _, g0, g1, g2, g3⟩ := open_agg4 Try.underlying25 (by kernel_rfl) cells25 hv h
  obtain ⟨s, hs⟩ := sv_of_raw (L := v0) g0
  obtain ⟨q, hq⟩ := pv_of_raw (L := v1) g1
  obtain ⟨k, e2, _, wk⟩ := DataW.trod_int Try.underlying3 g2
  obtain ⟨t, e3, _⟩ := DataW.trod_bool Try.underlying4 g3
  obtain rfl : v2 = .int .i64 k := by simpa using e2
  obtain rfl : v3 = .bool t := by simpa using e3
  exact ⟨⟨s, q, k, t⟩, v0, v1, rfl, hs, hq, w64_of wk⟩
theorem bv_of_trod {r : Reach} {b0 : Nat} {v : Value} {d : DataW H} {p : List MemPlace} (hv : Value.okWide Try.prog W r b0 35 v) (h : DataW.Trod enc Try.prog W base sp hd 35 v d p) : ∃ l, BV W v l := by
  obtain ⟨a1, len, cap, rfl⟩ := okWide_slice Try.underlying35 hv
  obtain ⟨fuel, hf⟩ := h
  exact bv_of_raw hf
end
end Go.Proofs.Ytanmhjbeookfiaa
