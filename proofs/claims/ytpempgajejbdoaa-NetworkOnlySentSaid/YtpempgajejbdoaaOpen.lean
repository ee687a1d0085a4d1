/-
  The arguments of the links' statements, opened.
-/
import Derived.Test.YtpempgajejbdoaaNt
import Derived.Test.YtpempgajejbdoaaChecked
import Derived.ProofKit
import Derived.Lib.SmallJoins
import Derived.Deep.Slices
namespace Go.Proofs.Ytpempgajejbdoaa
open Go Go.RowKit Go.ChangeShapes Go.WideShapes Go.ChangeAt Go.Joins
theorem cells25 : Try.prog.cellsOf 25 = 2 := by kernel_rfl
theorem cells28 : Try.prog.cellsOf 28 = 3 := by kernel_rfl
theorem cells55 : Try.prog.cellsOf 55 = 2 := by kernel_rfl
theorem cells26 : Try.prog.cellsOf 26 = 1 := by kernel_rfl
theorem cells3 : Try.prog.cellsOf 3 = 1 := by kernel_rfl
theorem cells5 : Try.prog.cellsOf 5 = 1 := by kernel_rfl
theorem w64_of {k : Int} (h : (Lit.int .i64 k).wf = true) : W64 k := by
  have e := h
  have e1 : IntKind.i64.min = -9223372036854775808 := by decide +kernel
  have e2 : IntKind.i64.max = 9223372036854775807 := by decide +kernel
  simp only [Lit.wf, Bool.and_eq_true, decide_eq_true_eq, e1, e2] at e
  exact e
theorem u8_wf {n : Int} (h : (Lit.int .u8 n).wf = true) : 0 ≤ n ∧ n < 256 := by
  have e := h
  have e1 : IntKind.u8.min = 0 := by decide +kernel
  have e2 : IntKind.u8.max = 255 := by decide +kernel
  simp only [Lit.wf, Bool.and_eq_true, decide_eq_true_eq, e1, e2] at e
  omega
section
variable {H : Type} {enc : TypeId × Value → H} {W : World} {base : Nat} {sp : Nat → Bool} {hd : Bool}
theorem bv_of_raw {fuel : Nat} {u : Value} {x : DataW H × List MemPlace} (hf : DataW.trod enc Try.prog W base sp hd fuel 26 [u] = some x) : ∃ l : List UInt8, BV (fun _ => True) W u l := by
  rcases open_ints Try.underlying26 Try.underlying5 cells5 hf with ⟨hcs, hx⟩ | ⟨a, len, cap, zs, hcs, _, hl, hm, hz, hx, hcell, hwz⟩
  · obtain rfl : u = .slice none 0 0 := by simpa using hcs
    exact ⟨[], nil_BV W⟩
  · obtain rfl : u = .slice (some a) len cap := by simpa using hcs
    have hz' : len ≤ zs.length := by rw [hz]; split <;> omega
    obtain ⟨b, o, spot⟩ := a
    have hlen : ((zs.take len).map fun n => UInt8.ofNat n.toNat).length = len := by simp; omega
    refine ⟨(zs.take len).map fun n => UInt8.ofNat n.toNat, b, cap, some ⟨b, o, spot⟩, by rw [hlen], by rw [hlen]; exact hl, hm, (fun e => by cases e), ?_⟩
    by_cases h0 : len = 0
    · subst h0
      exact .inl (by simp)
    · have hspot : spot = none := by simpa [Addr.add] using World.cell?_spot (hcell 0 (by omega))
      subst hspot
      refine .inr ⟨o, rfl, ⟨?_, trivial⟩, fun j c hj => ?_⟩
      · exact World.block_lt_of_cell? W _ (hcell 0 (by omega))
      · have hjl : j < len := by
          rcases Nat.lt_or_ge j len with h | h
          · exact h
          · rw [List.getElem?_eq_none (by rw [hlen]; exact h)] at hj
            cases hj
        have hcj := hcell j (by omega)
        rw [Addr.add_lit] at hcj
        rw [hcj]
        have e : zs.getD j 0 = zs[j]'(by omega) := by simp [List.getD, List.getElem?_eq_getElem (show j < zs.length by omega)]
        have hr := u8_wf (hwz _ (List.getElem_mem (show j < zs.length by omega)))
        rw [e]
        rw [List.getElem?_map, List.getElem?_take, if_pos hjl, List.getElem?_eq_getElem (by omega)] at hj
        simp only [Option.map_some, Option.some.injEq] at hj
        subst hj
        unfold byt
        congr 2
        rw [UInt8.toNat_ofNat']
        omega
/-- a list of elements out of what each of them is -/
theorem list_of {α : Type} {P : Nat → α → Prop} : ∀ (n o : Nat), (∀ i, i < n → ∃ x, P (o + i) x) → ∃ l : List α, l.length = n ∧ ∀ (j : Nat) (x : α), l[j]? = some x → P (o + j) x
  | 0, _, _ => ⟨[], rfl, fun j x h => by simp at h⟩
  | n + 1, o, h => by
    obtain ⟨x, hx⟩ := h 0 (by omega)
    obtain ⟨l, hl, hp⟩ := list_of n (o + 1) (fun i hi => by
      obtain ⟨x, hx⟩ := h (i + 1) (by omega)
      exact ⟨x, by rw [show o + 1 + i = o + (i + 1) by omega]; exact hx⟩)
    refine ⟨x :: l, by simp [hl], fun j y hj => ?_⟩
    cases j with
    | zero => cases hj; exact hx
    | succ j => rw [show o + (j + 1) = o + 1 + j by omega]; exact hp j y hj
theorem pk_of_raw {m : Nat} {cs : List Value} {y : DataW H × List MemPlace} (hy : DataW.trod enc Try.prog W base sp hd m 28 cs = some y) : ∃ (x : Pk) (u : Value), cs = [.int .i64 x.1, .int .i64 x.2.1, u] ∧ W64 x.1 ∧ W64 x.2.1 ∧ BV (fun _ => True) W u x.2.2 := by
  obtain ⟨xs, m, hm', _, hlc, hlx, hf⟩ := DataW.trod_struct Try.underlying28 hy
  have hl3 : cs.length = 3 := by rw [cells28] at hlc; exact hlc
  match cs, hl3 with
  | [v0, v1, v2], _ =>
    have hx3 : xs.length = 3 := hlx
    have g0 := hf 0 _ rfl
    have g1 := hf 1 _ rfl
    have g2 := hf 2 _ rfl
    rw [List.getElem?_eq_getElem (by omega)] at g0 g1 g2
    replace g0 : DataW.trod enc Try.prog W base sp hd m 3 (([v0, v1, v2].drop 0).take (Try.prog.cellsOf 3)) = some xs[0] := g0
    replace g1 : DataW.trod enc Try.prog W base sp hd m 3 (([v0, v1, v2].drop 1).take (Try.prog.cellsOf 3)) = some xs[1] := g1
    replace g2 : DataW.trod enc Try.prog W base sp hd m 26 (([v0, v1, v2].drop 2).take (Try.prog.cellsOf 26)) = some xs[2] := g2
    rw [cells3] at g0 g1
    rw [cells26] at g2
    obtain ⟨k0, e0, _, wk0⟩ := DataW.trod_int Try.underlying3 g0
    obtain ⟨k1, e1, _, wk1⟩ := DataW.trod_int Try.underlying3 g1
    obtain ⟨l, hbv⟩ := bv_of_raw (u := v2) g2
    obtain rfl : v0 = .int .i64 k0 := by simpa using e0
    obtain rfl : v1 = .int .i64 k1 := by simpa using e1
    exact ⟨(k0, k1, l), v2, rfl, w64_of wk0, w64_of wk1, hbv⟩
theorem lk_of_raw {m : Nat} {cs : List Value} {y : DataW H × List MemPlace} (hy : DataW.trod enc Try.prog W base sp hd m 55 cs = some y) : ∃ x : Lk, cs = [.int .i64 x.1, .int .i64 x.2] ∧ W64 x.1 ∧ W64 x.2 := by
  obtain ⟨xs, m1, rfl, hx1, hlen, hn, hel⟩ := DataW.trod_array Try.underlying55 hy
  have hl2 : cs.length = 2 := by rw [cells55] at hlen; exact hlen
  match cs, hl2 with
  | [v0, v1], _ =>
    have g0 := hel 0 (by omega)
    have g1 := hel 1 (by omega)
    rw [List.getElem?_eq_getElem (by omega)] at g0 g1
    rw [cells3] at g0 g1
    obtain ⟨k0, e0, _, wk0⟩ := DataW.trod_int Try.underlying3 g0
    obtain ⟨k1, e1, _, wk1⟩ := DataW.trod_int Try.underlying3 g1
    obtain rfl : v0 = .int .i64 k0 := by simpa using e0
    obtain rfl : v1 = .int .i64 k1 := by simpa using e1
    exact ⟨(k0, k1), rfl, w64_of wk0, w64_of wk1⟩
theorem qv_of_raw {fuel : Nat} {L : Value} {x : DataW H × List MemPlace} (h : DataW.trod enc Try.prog W base sp hd fuel 22 [L] = some x) : ∃ s, QV (fun _ => True) W L s := by
  rcases DataW.trod_slice Try.underlying22 h with ⟨hc, _⟩ | ⟨a, len, cap, elems, rest, n, hn, hcs, _, hb, hl, hm, hlen, hel, _, _⟩
  · obtain rfl : L = .slice none 0 0 := by simpa using hc
    exact ⟨[], nil_QV W⟩
  · obtain rfl : L = .slice (some a) len cap := by simpa using hcs
    rw [cells28] at hel
    by_cases h0 : len = 0
    · subst h0
      exact ⟨[], 0, cap, some a, rfl, Nat.zero_le _, hm, (fun e => by cases e), .inl rfl⟩
    obtain ⟨b, o, spot⟩ := a
    have one : ∀ i, i < len → ∃ cs y, W.cells? base ((⟨b, o, spot⟩ : Addr).add (i * 3)) 3 = some cs ∧ DataW.trod enc Try.prog W base sp hd n 28 cs = some y := fun i hi => by
      have key := hel i hi
      rw [List.getElem?_eq_getElem (by omega)] at key
      obtain ⟨cs', h1, h2⟩ := Option.bind_eq_some_iff.1 key
      exact ⟨cs', _, h1, h2⟩
    obtain ⟨cs0, y0, hc0, _⟩ := one 0 (by omega)
    obtain ⟨_, hl0, hcell0⟩ := World.cells?_some hc0
    have h10 := hcell0 0 (by omega)
    rw [List.getElem?_eq_getElem (by omega)] at h10
    have hsp : spot = none := by simpa [Addr.add] using World.cell?_spot h10
    subst hsp
    have hblk : b < W.heap.size := World.block_lt_of_cell? W ((⟨b, o, none⟩ : Addr).add (0 * 3) |>.add 0) h10
    obtain ⟨s, hs, hp⟩ := list_of (P := fun i (x : Pk) => ∃ u, W.cell? ⟨b, o + i * 3, none⟩ = some (.int .i64 x.1) ∧ W.cell? ⟨b, o + i * 3 + 1, none⟩ = some (.int .i64 x.2.1) ∧ W.cell? ⟨b, o + i * 3 + 2, none⟩ = some u ∧ W64 x.1 ∧ W64 x.2.1 ∧ BV (fun _ => True) W u x.2.2) len 0 (fun i hi => by
      obtain ⟨cs, y, hc, hy⟩ := one i hi
      obtain ⟨_, hl2, hcell⟩ := World.cells?_some hc
      obtain ⟨x, u, rfl, w1, w2, hbv⟩ := pk_of_raw hy
      have c0 := hcell 0 (by omega)
      have c1 := hcell 1 (by omega)
      have c2 := hcell 2 (by omega)
      simp only [add_plain] at c0 c1 c2
      rw [Nat.zero_add]
      exact ⟨x, u, c0, c1, c2, w1, w2, hbv⟩)
    refine ⟨s, b, cap, some ⟨b, o, none⟩, by rw [hs], by rw [hs]; exact hl, hm, (fun e => by cases e), .inr ⟨o, rfl, ⟨hblk, trivial⟩, fun j x hj => ?_⟩⟩
    have := hp j x hj
    rwa [Nat.zero_add] at this
theorem av_of_raw {fuel : Nat} {L : Value} {x : DataW H × List MemPlace} (h : DataW.trod enc Try.prog W base sp hd fuel 23 [L] = some x) : ∃ s, AV (fun _ => True) W L s := by
  rcases DataW.trod_slice Try.underlying23 h with ⟨hc, _⟩ | ⟨a, len, cap, elems, rest, n, hn, hcs, _, hb, hl, hm, hlen, hel, _, _⟩
  · obtain rfl : L = .slice none 0 0 := by simpa using hc
    exact ⟨[], nil_AV W⟩
  · obtain rfl : L = .slice (some a) len cap := by simpa using hcs
    rw [cells55] at hel
    by_cases h0 : len = 0
    · subst h0
      exact ⟨[], 0, cap, some a, rfl, Nat.zero_le _, hm, (fun e => by cases e), .inl rfl⟩
    obtain ⟨b, o, spot⟩ := a
    have one : ∀ i, i < len → ∃ cs y, W.cells? base ((⟨b, o, spot⟩ : Addr).add (i * 2)) 2 = some cs ∧ DataW.trod enc Try.prog W base sp hd n 55 cs = some y := fun i hi => by
      have key := hel i hi
      rw [List.getElem?_eq_getElem (by omega)] at key
      obtain ⟨cs', h1, h2⟩ := Option.bind_eq_some_iff.1 key
      exact ⟨cs', _, h1, h2⟩
    obtain ⟨cs0, y0, hc0, _⟩ := one 0 (by omega)
    obtain ⟨_, hl0, hcell0⟩ := World.cells?_some hc0
    have h10 := hcell0 0 (by omega)
    rw [List.getElem?_eq_getElem (by omega)] at h10
    have hsp : spot = none := by simpa [Addr.add] using World.cell?_spot h10
    subst hsp
    have hblk : b < W.heap.size := World.block_lt_of_cell? W ((⟨b, o, none⟩ : Addr).add (0 * 2) |>.add 0) h10
    obtain ⟨s, hs, hp⟩ := list_of (P := fun i (x : Lk) => W.cell? ⟨b, o + i * 2, none⟩ = some (.int .i64 x.1) ∧ W.cell? ⟨b, o + i * 2 + 1, none⟩ = some (.int .i64 x.2) ∧ W64 x.1 ∧ W64 x.2) len 0 (fun i hi => by
      obtain ⟨cs, y, hc, hy⟩ := one i hi
      obtain ⟨_, hl2, hcell⟩ := World.cells?_some hc
      obtain ⟨x, rfl, w1, w2⟩ := lk_of_raw hy
      have c0 := hcell 0 (by omega)
      have c1 := hcell 1 (by omega)
      simp only [add_plain] at c0 c1
      rw [Nat.zero_add]
      exact ⟨x, c0, c1, w1, w2⟩)
    refine ⟨s, b, cap, some ⟨b, o, none⟩, by rw [hs], by rw [hs]; exact hl, hm, (fun e => by cases e), .inr ⟨o, rfl, ⟨hblk, trivial⟩, fun j x hj => ?_⟩⟩
    have := hp j x hj
    rwa [Nat.zero_add] at this
/-- links that are read, as an argument -/
theorem nv_of_trod {r : Reach} {b0 : Nat} {v : Value} {d : DataW H} {p : List MemPlace} (hv : Value.okWide Try.prog W r b0 25 v) (h : DataW.Trod enc Try.prog W base sp hd 25 v d p) : ∃ x, NV (fun _ => True) W v x := by
  obtain ⟨v0, v1, y0, y1, m, rfl, _, _, g0, g1⟩ := open_agg2 Try.underlying25 (by kernel_rfl) cells25 hv h
  obtain ⟨s, hs⟩ := qv_of_raw (L := v0) g0
  obtain ⟨q, hq⟩ := av_of_raw (L := v1) g1
  exact ⟨⟨s, q⟩, v0, v1, rfl, hs, hq⟩
theorem pkv_of_trod {r : Reach} {b0 : Nat} {v : Value} {d : DataW H} {p : List MemPlace} (hv : Value.okWide Try.prog W r b0 28 v) (h : DataW.Trod enc Try.prog W base sp hd 28 v d p) : ∃ x, PKV (fun _ => True) W v x := by
  obtain ⟨v0, v1, v2, y0, y1, y2, m, rfl, _, _, g0, g1, g2⟩ := open_agg3 Try.underlying28 (by kernel_rfl) cells28 hv h
  obtain ⟨k0, e0, _, wk0⟩ := DataW.trod_int Try.underlying3 g0
  obtain ⟨k1, e1, _, wk1⟩ := DataW.trod_int Try.underlying3 g1
  obtain ⟨l, hbv⟩ := bv_of_raw (u := v2) g2
  obtain rfl : v0 = .int .i64 k0 := by simpa using e0
  obtain rfl : v1 = .int .i64 k1 := by simpa using e1
  exact ⟨(k0, k1, l), v2, rfl, w64_of wk0, w64_of wk1, hbv⟩
end
end Go.Proofs.Ytpempgajejbdoaa
