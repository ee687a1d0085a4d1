/-
  A list of moves, as an argument of a statement.
-/
import Derived.Test.YtpempgajejbdoaaOpen
import Derived.Test.YtpempgajejbdoaaHap
namespace Go.Proofs.Ytpempgajejbdoaa
open Go Go.RowKit Go.ChangeShapes Go.WideShapes Go.ChangeAt Go.Joins
theorem cells49 : Try.prog.cellsOf 49 = 5 := by kernel_rfl
/-- the bounds of a move's numbers -/
structure Mok (m : Mv) : Prop where
  k : m.k < 256
  i : m.i < 256
  a : m.a < 256
  b : m.b < 256
/-- the slice is these moves -/
def MVs (w : World) (v : Value) (s : List Mv) : Prop := ∃ (p : Option Addr) (c : Nat), v = .slice p s.length c ∧ s.length ≤ c ∧ c ≤ maxLen ∧ ∀ (j : Nat) (m : Mv), s[j]? = some m → ∃ b o, p = some ⟨b, o, none⟩ ∧ b < w.heap.size ∧
  w.cell? ⟨b, o + j * 5, none⟩ = some (.int .u8 m.k) ∧ w.cell? ⟨b, o + j * 5 + 1, none⟩ = some (.int .u8 m.i) ∧ w.cell? ⟨b, o + j * 5 + 2, none⟩ = some (.int .u8 m.a) ∧ w.cell? ⟨b, o + j * 5 + 3, none⟩ = some (.int .u8 m.b) ∧ w.cell? ⟨b, o + j * 5 + 4, none⟩ = some (byt m.d) ∧ Mok m
section
variable {H : Type} {enc : TypeId × Value → H} {W : World} {base : Nat} {sp : Nat → Bool} {hd : Bool}
theorem mv_of_raw {m : Nat} {cs : List Value} {y : DataW H × List MemPlace} (hy : DataW.trod enc Try.prog W base sp hd m 49 cs = some y) : ∃ x : Mv, cs = [.int .u8 x.k, .int .u8 x.i, .int .u8 x.a, .int .u8 x.b, byt x.d] ∧ Mok x := by
  obtain ⟨xs, m, hm', _, hlc, hlx, hf⟩ := DataW.trod_struct Try.underlying49 hy
  have hl5 : cs.length = 5 := by rw [cells49] at hlc; exact hlc
  match cs, hl5 with
  | [v0, v1, v2, v3, v4], _ =>
    have hx5 : xs.length = 5 := hlx
    have g0 := hf 0 _ rfl
    have g1 := hf 1 _ rfl
    have g2 := hf 2 _ rfl
    have g3 := hf 3 _ rfl
    have g4 := hf 4 _ rfl
    rw [List.getElem?_eq_getElem (by omega)] at g0 g1 g2 g3 g4
    replace g0 : DataW.trod enc Try.prog W base sp hd m 5 (([v0, v1, v2, v3, v4].drop 0).take (Try.prog.cellsOf 5)) = some xs[0] := g0
    replace g1 : DataW.trod enc Try.prog W base sp hd m 5 (([v0, v1, v2, v3, v4].drop 1).take (Try.prog.cellsOf 5)) = some xs[1] := g1
    replace g2 : DataW.trod enc Try.prog W base sp hd m 5 (([v0, v1, v2, v3, v4].drop 2).take (Try.prog.cellsOf 5)) = some xs[2] := g2
    replace g3 : DataW.trod enc Try.prog W base sp hd m 5 (([v0, v1, v2, v3, v4].drop 3).take (Try.prog.cellsOf 5)) = some xs[3] := g3
    replace g4 : DataW.trod enc Try.prog W base sp hd m 5 (([v0, v1, v2, v3, v4].drop 4).take (Try.prog.cellsOf 5)) = some xs[4] := g4
    rw [cells5] at g0 g1 g2 g3 g4
    obtain ⟨k0, e0, _, wk0⟩ := DataW.trod_int Try.underlying5 g0
    obtain ⟨k1, e1, _, wk1⟩ := DataW.trod_int Try.underlying5 g1
    obtain ⟨k2, e2, _, wk2⟩ := DataW.trod_int Try.underlying5 g2
    obtain ⟨k3, e3, _, wk3⟩ := DataW.trod_int Try.underlying5 g3
    obtain ⟨k4, e4, _, wk4⟩ := DataW.trod_int Try.underlying5 g4
    obtain rfl : v0 = .int .u8 k0 := by simpa using e0
    obtain rfl : v1 = .int .u8 k1 := by simpa using e1
    obtain rfl : v2 = .int .u8 k2 := by simpa using e2
    obtain rfl : v3 = .int .u8 k3 := by simpa using e3
    obtain rfl : v4 = .int .u8 k4 := by simpa using e4
    obtain ⟨p0, q0⟩ := u8_wf wk0
    obtain ⟨p1, q1⟩ := u8_wf wk1
    obtain ⟨p2, q2⟩ := u8_wf wk2
    obtain ⟨p3, q3⟩ := u8_wf wk3
    obtain ⟨p4, q4⟩ := u8_wf wk4
    refine ⟨⟨k0.toNat, k1.toNat, k2.toNat, k3.toNat, UInt8.ofNat k4.toNat⟩, ?_, ⟨by show k0.toNat < 256; omega, by show k1.toNat < 256; omega, by show k2.toNat < 256; omega, by show k3.toNat < 256; omega⟩⟩
    have e : byt (UInt8.ofNat k4.toNat) = .int .u8 k4 := by
      unfold byt
      congr 1
      rw [UInt8.toNat_ofNat']
      omega
    simp only [Int.toNat_of_nonneg p0, Int.toNat_of_nonneg p1, Int.toNat_of_nonneg p2, Int.toNat_of_nonneg p3, e]
theorem mvs_of_raw {fuel : Nat} {L : Value} {x : DataW H × List MemPlace} (h : DataW.trod enc Try.prog W base sp hd fuel 45 [L] = some x) : ∃ s, MVs W L s := by
  rcases DataW.trod_slice Try.underlying45 h with ⟨hc, _⟩ | ⟨a, len, cap, elems, rest, n, hn, hcs, _, hb, hl, hm, hlen, hel, _, _⟩
  · obtain rfl : L = .slice none 0 0 := by simpa using hc
    exact ⟨[], none, 0, rfl, Nat.le_refl _, by unfold maxLen; omega, fun j m hj => by simp at hj⟩
  · obtain rfl : L = .slice (some a) len cap := by simpa using hcs
    rw [cells49] at hel
    obtain ⟨b, o, spot⟩ := a
    have one : ∀ i, i < len → ∃ cs y, W.cells? base ((⟨b, o, spot⟩ : Addr).add (i * 5)) 5 = some cs ∧ DataW.trod enc Try.prog W base sp hd n 49 cs = some y := fun i hi => by
      have key := hel i hi
      rw [List.getElem?_eq_getElem (by omega)] at key
      obtain ⟨cs', h1, h2⟩ := Option.bind_eq_some_iff.1 key
      exact ⟨cs', _, h1, h2⟩
    by_cases h0 : len = 0
    · subst h0
      exact ⟨[], some ⟨b, o, spot⟩, cap, rfl, Nat.zero_le _, hm, fun j m hj => by simp at hj⟩
    obtain ⟨cs0, y0, hc0, _⟩ := one 0 (by omega)
    obtain ⟨_, hl0, hcell0⟩ := World.cells?_some hc0
    have h10 := hcell0 0 (by omega)
    rw [List.getElem?_eq_getElem (by omega)] at h10
    have hsp : spot = none := by simpa [Addr.add] using World.cell?_spot h10
    subst hsp
    have hblk : b < W.heap.size := World.block_lt_of_cell? W ((⟨b, o, none⟩ : Addr).add (0 * 5) |>.add 0) h10
    obtain ⟨s, hs, hp⟩ := list_of (P := fun i (m : Mv) => ∃ b' o', some (⟨b, o, none⟩ : Addr) = some ⟨b', o', none⟩ ∧ b' < W.heap.size ∧
      W.cell? ⟨b', o' + i * 5, none⟩ = some (.int .u8 m.k) ∧ W.cell? ⟨b', o' + i * 5 + 1, none⟩ = some (.int .u8 m.i) ∧ W.cell? ⟨b', o' + i * 5 + 2, none⟩ = some (.int .u8 m.a) ∧ W.cell? ⟨b', o' + i * 5 + 3, none⟩ = some (.int .u8 m.b) ∧ W.cell? ⟨b', o' + i * 5 + 4, none⟩ = some (byt m.d) ∧ Mok m) len 0 (fun i hi => by
      obtain ⟨cs, y, hc, hy⟩ := one i hi
      obtain ⟨_, hl2, hcell⟩ := World.cells?_some hc
      obtain ⟨x, rfl, hok⟩ := mv_of_raw hy
      have c0 := hcell 0 (by omega)
      have c1 := hcell 1 (by omega)
      have c2 := hcell 2 (by omega)
      have c3 := hcell 3 (by omega)
      have c4 := hcell 4 (by omega)
      simp only [add_plain] at c0 c1 c2 c3 c4
      rw [Nat.zero_add]
      exact ⟨x, b, o, rfl, hblk, c0, c1, c2, c3, c4, hok⟩)
    refine ⟨s, some ⟨b, o, none⟩, cap, by rw [hs], by rw [hs]; exact hl, hm, fun j m hj => ?_⟩
    have := hp j m hj
    rwa [Nat.zero_add] at this
theorem mv_of_trod {r : Reach} {b0 : Nat} {v : Value} {d : DataW H} {p : List MemPlace} (hv : Value.okWide Try.prog W r b0 45 v) (h : DataW.Trod enc Try.prog W base sp hd 45 v d p) : ∃ s, MVs W v s := by
  obtain ⟨a1, len, cap, rfl⟩ := okWide_slice Try.underlying45 hv
  obtain ⟨fuel, hf⟩ := h
  exact mvs_of_raw hf
theorem qv_of_trod {r : Reach} {b0 : Nat} {v : Value} {d : DataW H} {p : List MemPlace} (hv : Value.okWide Try.prog W r b0 22 v) (h : DataW.Trod enc Try.prog W base sp hd 22 v d p) : ∃ s, QV (fun _ => True) W v s := by
  obtain ⟨a1, len, cap, rfl⟩ := okWide_slice Try.underlying22 hv
  obtain ⟨fuel, hf⟩ := h
  exact qv_of_raw hf
theorem bv_of_trod {r : Reach} {b0 : Nat} {v : Value} {d : DataW H} {p : List MemPlace} (hv : Value.okWide Try.prog W r b0 26 v) (h : DataW.Trod enc Try.prog W base sp hd 26 v d p) : ∃ l, BV (fun _ => True) W v l := by
  obtain ⟨a1, len, cap, rfl⟩ := okWide_slice Try.underlying26 hv
  obtain ⟨fuel, hf⟩ := h
  exact bv_of_raw hf
end
end Go.Proofs.Ytpempgajejbdoaa
