/-
  Digest: a digest as an argument.
-/
import Derived.Test.YtekboemijafplaaDoorOpenD
namespace Go.Proofs.YtekboemijafplaaDoor
open Go.ChangeShapes Go.WideShapes Go.ChangeAt Go.WideMaps Go.WideElems Go.RowKit Go.Joins
theorem c26 : Tryd.prog.cellsOf 26 = 32 := by kernel_rfl
theorem digest_of_trod {H : Type} {enc : TypeId × Value → H} {W : World} {base : Nat} {v : Value} {d : DataW H} {p : List MemPlace} (hval : Value.okWide Tryd.prog W .any base 26 v) (h : DataW.Trod enc Tryd.prog W 0 (fun _ => true) true 26 v d p) : ∃ g : List UInt8, v = dgv g ∧ g.length = 32 := by
  simp only [Value.okWide, Tryd.underlying26] at hval
  obtain ⟨cs, rfl, hsz, _⟩ := hval
  obtain ⟨fuel, hf⟩ := h
  obtain ⟨xs, m1, rfl, hx1, hlen, hn, hel⟩ := DataW.trod_array Tryd.underlying26 hf
  rw [c26] at hlen
  have hlen' : cs.size = 32 := by simpa [Value.cells] using hlen
  have hc : ∀ i, i < 32 → ∃ k : Int, cs[i]? = some (.int .u8 k) ∧ 0 ≤ k ∧ k < 256 := fun i hi => by
    have h0 := hel i hi
    have hxt : i < xs.length := by omega
    rw [List.getElem?_eq_getElem hxt] at h0
    obtain ⟨k, e1, _, hw⟩ := DataW.trod_int Tryd.underlying5 (show DataW.trod _ Tryd.prog W 0 _ true m1 5 _ = some xs[i] from h0)
    rw [Tryd.cells5, Nat.mul_one] at e1
    refine ⟨k, ?_, u8_wf hw⟩
    have : (cs.toList.drop i)[0]? = some (.int .u8 k) := by
      have h9 : (((Value.agg cs).cells.toList.drop i).take 1)[0]? = some (Value.int .u8 k) := by rw [e1]; rfl
      rw [List.getElem?_take] at h9
      simpa [Value.cells] using h9
    rw [List.getElem?_drop] at this
    simpa using this
  refine ⟨cs.toList.map fun v => UInt8.ofNat (intOf v).toNat, ?_, by simp [hlen']⟩
  unfold dgv
  congr 1
  apply Array.ext_getElem?
  intro i
  by_cases hi : i < 32
  · obtain ⟨k, e, k0, k1⟩ := hc i hi
    rw [e]
    have e2 : cs.toList[i]? = some (.int .u8 k) := by simpa using e
    simp only [List.getElem?_toArray, List.getElem?_map, e2, Option.map_some]
    congr 1
    unfold byt
    congr 1
    rw [UInt8.toNat_ofNat']
    simp only [intOf]
    omega
  · rw [Array.getElem?_eq_none (by omega), Array.getElem?_eq_none (by simp [hlen']; omega)]
end Go.Proofs.YtekboemijafplaaDoor
