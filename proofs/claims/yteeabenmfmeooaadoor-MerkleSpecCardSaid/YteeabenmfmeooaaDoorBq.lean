/-
  bytes.Equal.
-/
import Derived.Test.YteeabenmfmeooaaDoorPr
import Derived.Lib.SmallJoins
import Derived.Deep.Slices
namespace Go.Proofs.YteeabenmfmeooaaDoor
open Go Go.RowKit
theorem strOf_byt (l : List UInt8) : strOfNums (l.map fun c => (c.toNat : Int)) = ⟨l.toArray⟩ := by
  unfold strOfNums
  rw [List.map_map]
  congr 2
  induction l with
  | nil => rfl
  | cons c l ih => rw [List.map_cons, ih]; simp
theorem bv_string {w : World} {p : Option Addr} {N cap : Nat} {l : List UInt8} (h : BV w (.slice p N cap) l) : (convert 34 9 (.slice p N cap)).run Tryd.prog w = .ok (.string ⟨l.toArray⟩) w := by
  obtain ⟨b, cap', p', hv, h1, h2, h3, h4⟩ := h
  cases hv
  rcases h4 with rfl | ⟨o, rfl, c2, c3⟩
  · change (convert 34 9 (.slice p 0 cap)).run Tryd.prog w = _
    rw [run_convert_bytes_string w 34 9 5 p 0 cap Tryd.underlying34 (by kernel_rfl) Tryd.underlying9]
    cases p
    · simp [Conv.bytesToString]
      rfl
    · have hl : ∀ a : Addr, (loadCells a 0).run Tryd.prog w = .ok #[] w := fun a => by
        have := run_loadCells_list (P := Tryd.prog) w a [] (fun j v hj => by simp at hj)
        simpa using this
      simp [Conv.bytesToString, hl]
      rfl
  · rw [← strOf_byt]
    refine run_convert_bytes_arg w 34 5 Tryd.underlying34 (by kernel_rfl) b o l.length cap (l.map fun c => (c.toNat : Int)) (by simp) (fun i hi => ?_) 9 Tryd.underlying9
    rw [c3 i _ (List.getElem?_eq_getElem hi)]
    simp [byt, List.getD, List.getElem?_eq_getElem hi]
theorem equal_any (u v : Value) (l m : List UInt8) (w : World) (hu : BV w u l) (hv : BV w v m) : Calls Tryd.prog 50 #[u, v] w (fun e w' => e = .returned (.bool (l == m)) ∧ w' = w) := by
  obtain ⟨p1, c1, rfl⟩ : ∃ p c, u = .slice p l.length c := by
    obtain ⟨_, c, p, e, _⟩ := hu
    exact ⟨p, c, e⟩
  obtain ⟨p2, c2, rfl⟩ : ∃ p c, v = .slice p m.length c := by
    obtain ⟨_, c, p, e, _⟩ := hv
    exact ⟨p, c, e⟩
  have S1 := bv_string hu
  have S2 := bv_string hv
  clear hu hv
  generalize l.length = a at *
  generalize m.length = b at *
  go_enter Tryd.func50, Tryd.ntmps50
  go_wp2_with fail
  go_ret
  exact ⟨rfl, rfl⟩
end Go.Proofs.YteeabenmfmeooaaDoor
