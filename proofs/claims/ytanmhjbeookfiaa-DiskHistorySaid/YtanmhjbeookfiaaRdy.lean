/-
  Disks: Read, and the reference's Read, for every disk and number.
-/
import Derived.Test.YtanmhjbeookfiaaRd
import Derived.Test.YtanmhjbeookfiaaSyn
namespace Go.Proofs.Ytanmhjbeookfiaa
open Go Go.RowKit
open Classical in
noncomputable def readL (d : D) (a : Int) : List UInt8 := if goodA d a then cur d a.toNat d.p.length else []
open Classical in
noncomputable def readE (d : D) (a : Int) : Int := if goodA d a then 0 else 40
theorem cur_len {d : D} {a : Nat} (hv : valid d = true) (ha : a < d.s.length) (k : Nat) (hk : k ≤ d.p.length) : (cur d a k).length = 128 := by
  unfold valid at hv
  simp only [Bool.and_eq_true] at hv
  obtain ⟨h1, h2, _⟩ := hv
  induction k with
  | zero =>
    unfold okS at h1
    simp only [Bool.and_eq_true, List.all_eq_true] at h1
    have h3 := h1.2 d.s[a] (List.getElem_mem ha)
    unfold secB at h3
    unfold cur
    simp only [List.take_zero, List.foldl_nil, List.getD_eq_getElem?_getD, List.getElem?_eq_getElem ha, Option.getD_some]
    simpa using h3
  | succ k ih =>
    obtain ⟨⟨n, l'⟩, h⟩ : ∃ x, d.p[k]'(by omega) = x := ⟨_, rfl⟩
    have h' : d.p[k]? = some (n, l') := by rw [List.getElem?_eq_getElem (by omega), h]
    rw [cur_succ d a k h']
    split
    · unfold okP at h2
      simp only [Bool.and_eq_true, List.all_eq_true] at h2
      have h3 := h2.2 _ (List.mem_of_getElem? h')
      unfold penB at h3
      simp only [Bool.and_eq_true, decide_eq_true_eq] at h3
      exact h3.2
    · exact ih (by omega)
theorem goodA_nat {d : D} {a : Int} (h : goodA d a) : 0 ≤ a ∧ a < d.s.length := by
  have h2 := h.2
  unfold inB at h2
  simp only [decide_eq_true_eq] at h2
  omega
theorem read_any (v : Value) (d : D) (a : Int) (w : World) (h : DV w v d) : Calls Try.prog 21 #[v, .int .i64 a] w (RetL (readL d a) (readE d a) w) := by
  by_cases hg : goodA d a
  · unfold readL readE
    rw [if_pos hg, if_pos hg]
    obtain ⟨h1, h2⟩ := goodA_nat hg
    obtain ⟨hv, _⟩ := runs_of hg.1
    have := read_yes v d a w h hg (fun w' ps pp N cs M cp HO h3 h4 h5 h6 => current_any w' d ps pp N cs M cp a HO h3 h4 h5 h6 h1 (by rw [← HO.n]; exact h2))
    rwa [fill_id (cur_len hv (by omega) _ (Nat.le_refl _))] at this
  · unfold readL readE
    rw [if_neg hg, if_neg hg]
    exact read_bad v d a w h hg
theorem rread_any (v : Value) (d : D) (a : Int) (w : World) (h : DV w v d) : Calls Try.prog 22 #[v, .int .i64 a] w (RetL (readL d a) (readE d a) w) := by
  by_cases hg : goodA d a
  · unfold readL readE
    rw [if_pos hg, if_pos hg]
    exact rread_yes v d a w h hg
  · unfold readL readE
    rw [if_neg hg, if_neg hg]
    exact rread_bad v d a w h hg
end Go.Proofs.Ytanmhjbeookfiaa
