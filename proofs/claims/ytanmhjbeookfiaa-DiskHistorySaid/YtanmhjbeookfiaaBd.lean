/-
  Disks: a variable that holds a disk; what a store into it leaves of other disks.
-/
import Derived.Test.YtanmhjbeookfiaaPur
import Derived.Test.YtanmhjbeookfiaaActs
import Derived.Test.YtanmhjbeookfiaaRsyl
namespace Go.Proofs.Ytanmhjbeookfiaa
open Go Go.RowKit
abbrev drow (c0 c1 : Value) (X : D) : Option Obj := some (.cells #[c0, c1, .int .i64 X.left, .bool X.st] 25 (0, 0))
/-- block k is a variable that holds the disk -/
def BD (W : World) (k : Nat) (X : D) : Prop := ∃ c0 c1, W.heap[k]? = drow c0 c1 X ∧ DV W (.agg #[c0, c1, .int .i64 X.left, .bool X.st]) X
theorem BD.lt {W : World} {k : Nat} {X : D} (h : BD W k X) : k < W.heap.size := by
  obtain ⟨c0, c1, h1, _⟩ := h
  exact (Array.getElem?_eq_some_iff.1 h1).1
theorem BD.below {W W' : World} {k : Nat} {X : D} (h : BD W k X) (hb : Below W.heap.size W W') : BD W' k X := by
  obtain ⟨c0, c1, h1, h2⟩ := h
  exact ⟨c0, c1, (hb.block _ (Array.getElem?_eq_some_iff.1 h1).1).trans h1, h2.below hb⟩
theorem BD.open {W : World} {k : Nat} {X : D} (h : BD W k X) : ∃ ps N cs pp M cp, W.heap[k]? = drow (.slice ps N cs) (.slice pp M cp) X ∧ Hid (Op W X ps N cs pp M cp) ∧ N ≤ cs ∧ cs ≤ 9223372036854775807 ∧ M ≤ cp ∧ cp ≤ 9223372036854775807 := by
  obtain ⟨c0, c1, h1, h2⟩ := h
  obtain ⟨ps, N, cs, pp, M, cp, e, h3⟩ := h2.op
  cases e
  exact ⟨ps, N, cs, pp, M, cp, h1, h3⟩
theorem row_cells {W : World} {k : Nat} {c0 c1 c2 c3 : Value} {t : TypeId} (h : W.heap[k]? = some (.cells #[c0, c1, c2, c3] t (0, 0))) : W.cell? ⟨k, 0, none⟩ = some c0 ∧ W.cell? ⟨k, 1, none⟩ = some c1 ∧ W.cell? ⟨k, 2, none⟩ = some c2 ∧ W.cell? ⟨k, 3, none⟩ = some c3 ∧ (∀ o, W.frozen? ⟨k, o, none⟩ = false) := by
  refine ⟨by simp [World.cell?, h], by simp [World.cell?, h], by simp [World.cell?, h], by simp [World.cell?, h], fun o => by simp [World.frozen?, h]⟩
theorem drow_nb {ps pp : Option Addr} {N cs M cp : Nat} {k : Int} {b : Bool} : ∀ v ∈ (#[Value.slice ps N cs, Value.slice pp M cp, Value.int .i64 k, Value.bool b] : Array Value).toList, ∀ c, v ≠ byt c := by
  intro v hv c
  simp only [List.mem_cons, List.not_mem_nil, or_false] at hv
  rcases hv with rfl | rfl | rfl | rfl
  · exact nb_slice c
  · exact nb_slice c
  · exact nb_i64 c
  · exact nb_bool c
theorem row_at {W : World} {R o : Nat} {c0 c1 c2 c3 u : Value} {t : TypeId} (hr : W.heap[R]? = some (.cells #[c0, c1, c2, c3] t (0, 0))) (h : W.cell? ⟨R, o, none⟩ = some u) : (o = 0 ∧ u = c0) ∨ (o = 1 ∧ u = c1) ∨ (o = 2 ∧ u = c2) ∨ (o = 3 ∧ u = c3) := by
  simp only [World.cell?, hr] at h
  match o, h with
  | 0, h => exact .inl ⟨rfl, by simpa using h.symm⟩
  | 1, h => exact .inr (.inl ⟨rfl, by simpa using h.symm⟩)
  | 2, h => exact .inr (.inr (.inl ⟨rfl, by simpa using h.symm⟩))
  | 3, h => exact .inr (.inr (.inr ⟨rfl, by simpa using h.symm⟩))
  | n + 4, h => simp at h
/-- a store into a variable that holds a disk leaves other disks as they are -/
theorem DV.chgBox {W W' : World} {v : Value} {X O : D} {R : Nat} (h : DV W v X) (hX : X.s.all secB = true) (hO : BD W R O) (hc : Chg R W W') : DV W' v X := by
  obtain ⟨ps, N, cs, pp, M, cp, hr, HO, _⟩ := hO.open
  obtain ⟨sv, pv, e, hs, hp, hl⟩ := h
  refine ⟨sv, pv, e, ?_, ?_, hl⟩
  · obtain ⟨b, cap, p, e1, h1, h2, h3, h4⟩ := hs
    refine ⟨b, cap, p, e1, h1, h2, h3, ?_⟩
    rcases h4 with h4 | ⟨o, e2, hlt, hcl⟩
    · exact .inl h4
    · refine .inr ⟨o, e2, Nat.lt_of_lt_of_le hlt hc.size, fun j l hj => ?_⟩
      have hbR : b ≠ R := by
        rintro rfl
        obtain ⟨l0, hl0⟩ : ∃ l0, X.s[0]? = some l0 := ⟨_, List.getElem?_eq_getElem (by have := (List.getElem?_eq_some_iff.1 hj).1; omega)⟩
        obtain ⟨u, hu, hbv⟩ := hcl 0 l0 hl0
        rw [Nat.add_zero] at hu
        have h128 : l0.length = 128 := by
          have := List.all_eq_true.1 hX l0 (List.mem_of_getElem? hl0)
          unfold secB at this
          simpa using this
        obtain ⟨b1, cap1, p1, e3, g1, g2, g3, g4⟩ := hbv
        rcases g4 with g4 | ⟨o1, e4, _, hby⟩
        · rw [g4] at h128; simp at h128
        · obtain ⟨c, hcb⟩ : ∃ c, l0[0]? = some c := ⟨_, List.getElem?_eq_getElem (by omega)⟩
          have hb0 := hby 0 c hcb
          rw [Nat.add_zero] at hb0
          rcases row_at hr hu with ⟨_, e5⟩ | ⟨_, e5⟩ | ⟨_, e5⟩ | ⟨_, e5⟩
          · rw [e3] at e5
            injection e5 with e6 e7 e8
            have hN : 0 < N := by omega
            obtain ⟨b2, o2, pu, L, cu, l2, e9, _, hcc, _⟩ := HO.out.secAt 0 hN
            rw [← e6, e4] at e9
            cases e9
            rw [Nat.add_zero, hb0] at hcc
            cases hcc
          · rw [e3] at e5
            injection e5 with e6 e7 e8
            have hM : 0 < M := by omega
            obtain ⟨b2, o2, n2, pu, L, cu, l2, e9, _, hcc, _⟩ := HO.out.penAt 0 hM
            rw [← e6, e4] at e9
            cases e9
            rw [Nat.zero_mul, Nat.add_zero, hb0] at hcc
            cases hcc
          · rw [e3] at e5; cases e5
          · rw [e3] at e5; cases e5
      obtain ⟨u, hu, hbv⟩ := hcl j l hj
      exact ⟨u, (hc.cell hlt hbR).trans hu, hbv.chgRow hr drow_nb hc⟩
  · obtain ⟨b, cap, p, e1, h1, h2, h3, h4⟩ := hp
    refine ⟨b, cap, p, e1, h1, h2, h3, ?_⟩
    rcases h4 with h4 | ⟨o, e2, hlt, hcl⟩
    · exact .inl h4
    · refine .inr ⟨o, e2, Nat.lt_of_lt_of_le hlt hc.size, fun j x hj => ?_⟩
      obtain ⟨u, hu1, hu2, hw, hbv⟩ := hcl j x hj
      have hbR : b ≠ R := by
        rintro rfl
        obtain ⟨b1, cap1, p1, e3, _⟩ := hbv
        rcases row_at hr hu1 with ⟨_, e5⟩ | ⟨_, e5⟩ | ⟨e6, e5⟩ | ⟨_, e5⟩
        · cases e5
        · cases e5
        · rcases row_at hr hu2 with ⟨e7, _⟩ | ⟨e7, _⟩ | ⟨e7, _⟩ | ⟨_, e7⟩
          · omega
          · omega
          · omega
          · rw [e3] at e7; cases e7
        · cases e5
      exact ⟨u, (hc.cell hlt hbR).trans hu1, (hc.cell hlt hbR).trans hu2, hw, hbv.chgRow hr drow_nb hc⟩
theorem BD.other {W W' : World} {k R : Nat} {X O : D} (h : BD W k X) (hX : X.s.all secB = true) (hO : BD W R O) (hne : k ≠ R) (hc : Chg R W W') : BD W' k X := by
  obtain ⟨c0, c1, h1, h2⟩ := h
  exact ⟨c0, c1, (hc.block _ (Array.getElem?_eq_some_iff.1 h1).1 hne).trans h1, h2.chgBox hX hO hc⟩
theorem BD.stored {W W' : World} {R : Nat} {X O : D} {c0 c1 : Value} (hO : BD W R O) (hr : W'.heap[R]? = drow c0 c1 X) (hv : DV W (.agg #[c0, c1, .int .i64 X.left, .bool X.st]) X) (hX : X.s.all secB = true) (hc : Chg R W W') : BD W' R X :=
  ⟨c0, c1, hr, hv.chgBox hX hO hc⟩
theorem BD.zero {W : World} {k : Nat} (h : W.heap[k]? = some (.cells #[.slice none 0 0, .slice none 0 0, .int .i64 0, .bool false] 25 (0, 0))) : BD W k zero := ⟨_, _, h, zero_DV W⟩
theorem AV.chgBox {W W' : World} {v : Value} {s : List Ac} {O : D} {R : Nat} (h : AV W v s) (hO : BD W R O) (hc : Chg R W W') : AV W' v s := by
  obtain ⟨ps, N, cs, pp, M, cp, hr, HO, _⟩ := hO.open
  obtain ⟨b, cap, p, e, h1, h2, h3, h4⟩ := h
  refine ⟨b, cap, p, e, h1, h2, h3, ?_⟩
  rcases h4 with h4 | ⟨o, e, hlt, hcl⟩
  · exact .inl h4
  · refine .inr ⟨o, e, Nat.lt_of_lt_of_le hlt hc.size, fun j x hj => ?_⟩
    obtain ⟨h5, h6, h7⟩ := hcl j x hj
    have hbR : b ≠ R := by
      rintro rfl
      rcases row_at hr h6 with ⟨_, e5⟩ | ⟨_, e5⟩ | ⟨e6, e5⟩ | ⟨_, e5⟩
      · cases e5
      · cases e5
      · cases e5
      · cases e5
    exact ⟨(hc.cell hlt hbR).trans h5, (hc.cell hlt hbR).trans h6, (hc.cell hlt hbR).trans h7⟩
end Go.Proofs.Ytanmhjbeookfiaa
