/-
  The arguments of the codec's statements, opened: a value that is read as data lies in memory as a forest.
-/
import Derived.Test.YtaahmfmelmjahaaVal
import Derived.ProofKit
import Derived.Lib.SmallJoins
import Derived.Deep.Slices
namespace Go.Proofs.Ytaahmfmelmjahaa
open Go Go.RowKit Go.ChangeShapes Go.WideShapes Go.ChangeAt Go.Joins
theorem Try.cells24 : Try.prog.cellsOf 24 = 4 := by kernel_rfl
theorem Try.cells3 : Try.prog.cellsOf 3 = 1 := by kernel_rfl
theorem Try.cells9 : Try.prog.cellsOf 9 = 1 := by kernel_rfl
theorem Try.cells22 : Try.prog.cellsOf 22 = 1 := by kernel_rfl
theorem w64_of {k : Int} (h : (Lit.int .i64 k).wf = true) : W64 k := by
  have e := h
  have e1 : IntKind.i64.min = -9223372036854775808 := by decide +kernel
  have e2 : IntKind.i64.max = 9223372036854775807 := by decide +kernel
  simp only [Lit.wf, Bool.and_eq_true, decide_eq_true_eq, e1, e2] at e
  exact e
section
variable {H : Type} {enc : TypeId × Value → H} {W : World} {base : Nat} {sp : Nat → Bool} {hd : Bool}
/-- from each element to the list -/
theorem elems_of {b : Nat} : ∀ (len o : Nat), (∀ i, i < len → ∃ k n s L kids, W.cell? ⟨b, o + i * 4, none⟩ = some (.int .i64 k) ∧ W.cell? ⟨b, o + i * 4 + 1, none⟩ = some (.int .i64 n) ∧ W.cell? ⟨b, o + i * 4 + 2, none⟩ = some (.string s) ∧
    W.cell? ⟨b, o + i * 4 + 3, none⟩ = some L ∧ Okv k n s ∧ Sl W L kids) → ∃ f : F, f.len = len ∧ Lies W f b o
  | 0, o, _ => ⟨.nil, rfl, by unfold Lies; trivial⟩
  | len + 1, o, h => by
    obtain ⟨k, n, s, L, kids, h0, h1, h2, h3, h4, h5⟩ := h 0 (by omega)
    obtain ⟨f, hf, hl⟩ := elems_of len (o + 4) (fun i hi => by
      obtain ⟨k, n, s, L, kids, h0, h1, h2, h3, h4, h5⟩ := h (i + 1) (by omega)
      rw [show o + (i + 1) * 4 = o + 4 + i * 4 from by omega] at h0 h1 h2 h3
      exact ⟨k, n, s, L, kids, h0, h1, h2, h3, h4, h5⟩)
    refine ⟨.cons k n s kids f, by simp [F.len, hf], ?_⟩
    unfold Lies
    rw [Nat.zero_mul, Nat.add_zero] at h0 h1 h2 h3
    exact ⟨⟨L, h0, h1, h2, h3, h4, h5⟩, hl⟩
/-- the header of a slice of values that is read -/
theorem sl_of_trod : ∀ (fuel : Nat) (L : Value) (x : DataW H × List MemPlace), DataW.trod enc Try.prog W base sp hd fuel 22 [L] = some x → ∃ kids, Sl W L kids := by
  intro fuel
  induction fuel using Nat.strongRecOn with
  | _ fuel ih =>
    intro L x h
    rcases DataW.trod_slice Try.underlying22 h with ⟨hc, _⟩ | ⟨a, len, cap, elems, rest, n, hn, hcs, _, hb, hl, hm, hlen, hel, _, _⟩
    · obtain rfl : L = .slice none 0 0 := by simpa using hc
      exact ⟨.nil, .inl ⟨none, 0, rfl, rfl⟩⟩
    · obtain rfl : L = .slice (some a) len cap := by simpa using hcs
      rw [Try.cells24] at hel
      by_cases h0 : len = 0
      · subst h0
        exact ⟨.nil, .inl ⟨_, _, rfl, rfl⟩⟩
      obtain ⟨b, o, spot⟩ := a
      have one : ∀ i, i < len → ∃ cs y, W.cells? base ((⟨b, o, spot⟩ : Addr).add (i * 4)) 4 = some cs ∧ DataW.trod enc Try.prog W base sp hd n 24 cs = some y := fun i hi => by
        have key := hel i hi
        rw [List.getElem?_eq_getElem (by omega)] at key
        obtain ⟨cs', h1, h2⟩ := Option.bind_eq_some_iff.1 key
        exact ⟨cs', _, h1, h2⟩
      obtain ⟨cs0, y0, hc0, _⟩ := one 0 (by omega)
      obtain ⟨_, hl0, hcell0⟩ := World.cells?_some hc0
      have hsp : spot = none := by
        have h1 := hcell0 0 (by omega)
        rw [List.getElem?_eq_getElem (by omega)] at h1
        simpa [Addr.add] using World.cell?_spot h1
      subst hsp
      have hblk : b < W.heap.size := by
        have h1 := hcell0 0 (by omega)
        rw [List.getElem?_eq_getElem (by omega)] at h1
        exact World.block_lt_of_cell? W ((⟨b, o, none⟩ : Addr).add (0 * 4) |>.add 0) h1
      obtain ⟨f, hf, hlies⟩ := elems_of (W := W) (b := b) len o (fun i hi => by
        obtain ⟨cs, y, hc, hy⟩ := one i hi
        obtain ⟨_, hl4, hcell⟩ := World.cells?_some hc
        obtain ⟨xs, m, hm', _, hlc, hlx, hf⟩ := DataW.trod_struct Try.underlying24 hy
        match cs, hl4 with
        | [v0, v1, v2, v3], _ =>
          have hx4 : xs.length = 4 := hlx
          have g0 := hf 0 _ rfl
          have g1 := hf 1 _ rfl
          have g2 := hf 2 _ rfl
          have g3 := hf 3 _ rfl
          rw [List.getElem?_eq_getElem (by omega)] at g0 g1 g2 g3
          replace g0 : DataW.trod enc Try.prog W base sp hd m 3 (([v0, v1, v2, v3].drop 0).take (Try.prog.cellsOf 3)) = some xs[0] := g0
          replace g1 : DataW.trod enc Try.prog W base sp hd m 3 (([v0, v1, v2, v3].drop 1).take (Try.prog.cellsOf 3)) = some xs[1] := g1
          replace g2 : DataW.trod enc Try.prog W base sp hd m 9 (([v0, v1, v2, v3].drop 2).take (Try.prog.cellsOf 9)) = some xs[2] := g2
          replace g3 : DataW.trod enc Try.prog W base sp hd m 22 (([v0, v1, v2, v3].drop 3).take (Try.prog.cellsOf 22)) = some xs[3] := g3
          rw [Try.cells3] at g0 g1
          rw [Try.cells9] at g2
          rw [Try.cells22] at g3
          obtain ⟨k, e0, _, wk⟩ := DataW.trod_int Try.underlying3 g0
          obtain ⟨k', e1, _, wk'⟩ := DataW.trod_int Try.underlying3 g1
          obtain ⟨s, e2, _, ws⟩ := DataW.trod_string Try.underlying9 g2
          obtain ⟨kids, hk⟩ := ih m (by omega) v3 _ g3
          obtain rfl : v0 = .int .i64 k := by simpa using e0
          obtain rfl : v1 = .int .i64 k' := by simpa using e1
          obtain rfl : v2 = .string s := by simpa using e2
          have c0 := hcell 0 (by omega)
          have c1 := hcell 1 (by omega)
          have c2 := hcell 2 (by omega)
          have c3 := hcell 3 (by omega)
          simp only [add_plain] at c0 c1 c2 c3
          exact ⟨k, k', s, v3, kids, c0, c1, c2, c3, ⟨w64_of wk, w64_of wk', ws⟩, hk⟩)
      exact ⟨f, .inr ⟨b, o, cap, by rw [hf], by omega, hm, hblk, hlies⟩⟩
/-- a value that is read, as an argument -/
theorem val_of_trod {r : Reach} {b0 : Nat} {v : Value} {d : DataW H} {p : List MemPlace} (hv : Value.okWide Try.prog W r b0 24 v) (h : DataW.Trod enc Try.prog W base sp hd 24 v d p) :
    ∃ k n s L kids, v = val k n s L ∧ Okv k n s ∧ Sl W L kids := by
  obtain ⟨v0, v1, v2, v3, y0, y1, y2, y3, m, rfl, _, _, g0, g1, g2, g3⟩ := open_agg4 Try.underlying24 (by kernel_rfl) Try.cells24 hv h
  obtain ⟨k, e0, _, wk⟩ := DataW.trod_int Try.underlying3 g0
  obtain ⟨k', e1, _, wk'⟩ := DataW.trod_int Try.underlying3 g1
  obtain ⟨s, e2, _, ws⟩ := DataW.trod_string Try.underlying9 g2
  obtain ⟨kids, hk⟩ := sl_of_trod m v3 _ g3
  obtain rfl : v0 = .int .i64 k := by simpa using e0
  obtain rfl : v1 = .int .i64 k' := by simpa using e1
  obtain rfl : v2 = .string s := by simpa using e2
  exact ⟨k, k', s, v3, kids, rfl, ⟨w64_of wk, w64_of wk', ws⟩, hk⟩
end
end Go.Proofs.Ytaahmfmelmjahaa
