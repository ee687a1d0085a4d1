/-
  Disks: lists of acts, and such a list as an argument.
-/
import Derived.Test.YtanmhjbeookfiaaOpen
namespace Go.Proofs.Ytanmhjbeookfiaa
open Go Go.RowKit Go.ChangeShapes Go.WideShapes Go.ChangeAt Go.Joins
/-- a write, or a sync -/
structure Ac where
  y : Bool
  a : UInt8
  b : UInt8
/-- a slice of acts -/
def AV (w : World) (v : Value) (s : List Ac) : Prop := ∃ (b cap : Nat) (p : Option Addr), v = .slice p s.length cap ∧ s.length ≤ cap ∧ cap ≤ maxLen ∧ (p = none → cap = 0) ∧
  (s = [] ∨ ∃ o, p = some ⟨b, o, none⟩ ∧ b < w.heap.size ∧ ∀ j x, s[j]? = some x → w.cell? ⟨b, o + j * 3, none⟩ = some (.bool x.y) ∧ w.cell? ⟨b, o + j * 3 + 1, none⟩ = some (byt x.a) ∧ w.cell? ⟨b, o + j * 3 + 2, none⟩ = some (byt x.b))
theorem nil_AV (w : World) : AV w (.slice none 0 0) [] := ⟨0, 0, none, rfl, by simp, by simp [maxLen], fun _ => rfl, .inl rfl⟩
theorem AV.below {w w' : World} {v : Value} {s : List Ac} (h : AV w v s) (hb : Below w.heap.size w w') : AV w' v s := by
  obtain ⟨b, cap, p, e, h1, h2, h3, h4⟩ := h
  refine ⟨b, cap, p, e, h1, h2, h3, ?_⟩
  rcases h4 with h4 | ⟨o, e, hlt, hc⟩
  · exact .inl h4
  · refine .inr ⟨o, e, Nat.lt_of_lt_of_le hlt hb.size, fun j l hj => ?_⟩
    obtain ⟨h5, h6, h7⟩ := hc j l hj
    exact ⟨(bcells hb hlt _).trans h5, (bcells hb hlt _).trans h6, (bcells hb hlt _).trans h7⟩
theorem AV.shape {w : World} {v : Value} {s : List Ac} (h : AV w v s) : ∃ p c, v = .slice p s.length c ∧ s.length ≤ c ∧ c ≤ 9223372036854775807 := by
  obtain ⟨b, cap, p, e, h1, h2, _⟩ := h
  unfold maxLen at h2
  exact ⟨p, cap, e, h1, by omega⟩
theorem AV.at {w : World} {p : Option Addr} {n c : Nat} {s : List Ac} (h : AV w (.slice p n c) s) {j : Nat} {x : Ac} (hj : s[j]? = some x) :
    ∃ b o, p = some ⟨b, o, none⟩ ∧ b < w.heap.size ∧ w.cell? ⟨b, o + j * 3, none⟩ = some (.bool x.y) ∧ w.cell? ⟨b, o + j * 3 + 1, none⟩ = some (byt x.a) ∧ w.cell? ⟨b, o + j * 3 + 2, none⟩ = some (byt x.b) := by
  obtain ⟨b, cap, p', e, h1, h2, h3, h4⟩ := h
  cases e
  rcases h4 with rfl | ⟨o, e, hlt, hc⟩
  · simp at hj
  · exact ⟨b, o, e, hlt, hc j x hj⟩
theorem cells46 : Try.prog.cellsOf 46 = 3 := by kernel_rfl
section
variable {H : Type} {enc : TypeId × Value → H} {W : World} {base : Nat} {sp : Nat → Bool} {hd : Bool}
theorem byt_of {n : Int} (h : (Lit.int .u8 n).wf = true) : (Value.int .u8 n) = byt (UInt8.ofNat n.toNat) := by
  have := u8_wf h
  unfold byt
  congr 1
  rw [UInt8.toNat_ofNat']
  omega
theorem av_of_raw {fuel : Nat} {L : Value} {x : DataW H × List MemPlace} (h : DataW.trod enc Try.prog W base sp hd fuel 43 [L] = some x) : ∃ s, AV W L s := by
  rcases DataW.trod_slice Try.underlying43 h with ⟨hc, _⟩ | ⟨a, len, cap, elems, rest, n, hn, hcs, _, hb, hl, hm, hlen, hel, _, _⟩
  · obtain rfl : L = .slice none 0 0 := by simpa using hc
    exact ⟨[], nil_AV W⟩
  · obtain rfl : L = .slice (some a) len cap := by simpa using hcs
    rw [cells46] at hel
    by_cases h0 : len = 0
    · subst h0
      exact ⟨[], 0, cap, some a, rfl, Nat.zero_le _, hm, (fun e => by cases e), .inl rfl⟩
    obtain ⟨b, o, spot⟩ := a
    have one : ∀ i, i < len → ∃ cs y, W.cells? base ((⟨b, o, spot⟩ : Addr).add (i * 3)) 3 = some cs ∧ DataW.trod enc Try.prog W base sp hd n 46 cs = some y := fun i hi => by
      have key := hel i hi
      rw [List.getElem?_eq_getElem (by omega)] at key
      obtain ⟨cs', h1, h2⟩ := Option.bind_eq_some_iff.1 key
      exact ⟨cs', _, h1, h2⟩
    obtain ⟨cs0, y0, hc0, _⟩ := one 0 (by omega)
    obtain ⟨_, hl0, hcell0⟩ := World.cells?_some hc0
    have h10 := hcell0 0 (by omega)
    rw [List.getElem?_eq_getElem (by omega)] at h10
    have hsp : spot = none := by simpa [Addr.add] using World.cell?_spot h10
    subst hsp
    have hblk : b < W.heap.size := World.block_lt_of_cell? W ((⟨b, o, none⟩ : Addr).add (0 * 3) |>.add 0) h10
    obtain ⟨s, hs, hp⟩ := list_of (P := fun i (x : Ac) => W.cell? ⟨b, o + i * 3, none⟩ = some (.bool x.y) ∧ W.cell? ⟨b, o + i * 3 + 1, none⟩ = some (byt x.a) ∧ W.cell? ⟨b, o + i * 3 + 2, none⟩ = some (byt x.b)) len 0 (fun i hi => by
      obtain ⟨cs, y, hc, hy⟩ := one i hi
      obtain ⟨_, hl2, hcell⟩ := World.cells?_some hc
      obtain ⟨xs, m, hm', _, hlc, hlx, hf⟩ := DataW.trod_struct Try.underlying46 hy
      match cs, hl2 with
      | [v0, v1, v2], _ =>
        have hx2 : xs.length = 3 := hlx
        have g0 := hf 0 _ rfl
        have g1 := hf 1 _ rfl
        have g2 := hf 2 _ rfl
        rw [List.getElem?_eq_getElem (by omega)] at g0 g1 g2
        replace g0 : DataW.trod enc Try.prog W base sp hd m 4 (([v0, v1, v2].drop 0).take (Try.prog.cellsOf 4)) = some xs[0] := g0
        replace g1 : DataW.trod enc Try.prog W base sp hd m 5 (([v0, v1, v2].drop 1).take (Try.prog.cellsOf 5)) = some xs[1] := g1
        replace g2 : DataW.trod enc Try.prog W base sp hd m 5 (([v0, v1, v2].drop 2).take (Try.prog.cellsOf 5)) = some xs[2] := g2
        rw [cells4] at g0
        rw [cells5] at g1 g2
        obtain ⟨t, e0, _⟩ := DataW.trod_bool Try.underlying4 g0
        obtain ⟨k1, e1, _, wk1⟩ := DataW.trod_int Try.underlying5 g1
        obtain ⟨k2, e2, _, wk2⟩ := DataW.trod_int Try.underlying5 g2
        obtain rfl : v0 = .bool t := by simpa using e0
        obtain rfl : v1 = .int .u8 k1 := by simpa using e1
        obtain rfl : v2 = .int .u8 k2 := by simpa using e2
        have c0 := hcell 0 (by omega)
        have c1 := hcell 1 (by omega)
        have c2 := hcell 2 (by omega)
        simp only [add_plain] at c0 c1 c2
        rw [Nat.zero_add]
        refine ⟨⟨t, UInt8.ofNat k1.toNat, UInt8.ofNat k2.toNat⟩, c0, ?_, ?_⟩
        · rw [← byt_of wk1]; exact c1
        · rw [← byt_of wk2]; exact c2)
    refine ⟨s, b, cap, some ⟨b, o, none⟩, by rw [hs], by rw [hs]; exact hl, hm, (fun e => by cases e), .inr ⟨o, rfl, hblk, fun j x hj => ?_⟩⟩
    have := hp j x hj
    rwa [Nat.zero_add] at this
theorem av_of_trod {r : Reach} {b0 : Nat} {v : Value} {d : DataW H} {p : List MemPlace} (hv : Value.okWide Try.prog W r b0 43 v) (h : DataW.Trod enc Try.prog W base sp hd 43 v d p) : ∃ l, AV W v l := by
  obtain ⟨a1, len, cap, rfl⟩ := okWide_slice Try.underlying43 hv
  obtain ⟨fuel, hf⟩ := h
  exact av_of_raw hf
end
end Go.Proofs.Ytanmhjbeookfiaa
