/-
  Digest: what the row's datum gives a walk: the constants; a slice of bytes as an argument.
-/
import Derived.Test.YtekboemijafplaaDoorRows
import Derived.Test.YtekboemijafplaaDoorTag
import Derived.ProofKit
import Derived.ProofKit
import Derived.Lib.SmallJoins
import Derived.Deep.Slices
import Derived.LaidMore
import Derived.OpenShut
import Derived.Stop.Joined
namespace Go.Proofs.YtekboemijafplaaDoor
open Go.ChangeShapes Go.WideShapes Go.ChangeAt Go.WideMaps Go.WideElems Go.RowKit Go.Joins
theorem Tryd.own : ownKnob Tryd.prog.godebug = none := by kernel_rfl
theorem Tryd.laidOut : laidOutB Tryd.prog = true := by kernel_rfl
theorem gConst : Tryd.prog.globalNamed "podium/digest.constants" = some 0 := by kernel_rfl
theorem tConst : (Tryd.prog.globals[0]?).map (·.type) = some 66 := by kernel_rfl
def laidD : List (String × DataW Unit) := [("podium/digest.constants", Rows.laid_podium_digest_constants)]
theorem laid_kcs : (Rows.laid_podium_digest_constants : DataW Unit) = .agg (kcs.map fun k => .lit (.int .u32 k)) := by kernel_rfl
theorem c55 : Tryd.prog.cellsOf 55 = 1 := by kernel_rfl
theorem kok_of_laid {W : World} (h : laidMetH Tryd.prog laidD W) : KOK W := by
  rw [MakeChecks.laidMetH_plain _ _ _ (by kernel_rfl)] at h
  obtain ⟨ps, ⟨g0, t0, cs0, f0, p0, q0, hg0, ht0, hv0, hd0, _, _⟩, _, _⟩ := h
  obtain rfl := Option.some.inj (gConst.symm.trans hg0)
  obtain rfl := Option.some.inj (tConst.symm.trans ht0)
  obtain ⟨xs, m1, rfl, hx1, hlen, hn, hel⟩ := DataW.trod_array Tryd.underlying66 hd0
  rw [laid_kcs] at hx1
  simp only [Prod.mk.injEq, DataW.agg.injEq] at hx1
  have hcell : ∀ t, t < 64 → W.cell? ⟨0, t, none⟩ = some (.int .u32 (kc t)) := fun t ht => by
    have h0 := hel t ht
    have hxt : t < xs.length := by omega
    rw [List.getElem?_eq_getElem hxt] at h0
    obtain ⟨k, e1, e2, _⟩ := DataW.trod_int Tryd.underlying55 (show DataW.trod _ Tryd.prog W 0 _ false m1 55 _ = some xs[t] from h0)
    have hk : (kcs.map fun k => (DataW.lit (.int .u32 k) : DataW Unit))[t]? = some (.lit (.int .u32 k)) := by
      rw [hx1.1, List.getElem?_map, List.getElem?_eq_getElem hxt, e2]
      rfl
    rw [c55, Nat.mul_one] at e1
    rw [World.var?_cell hg0 hv0 t]
    have e3 : cs0[t]? = some (.int .u32 k) := by
      have : (cs0.toList.drop t)[0]? = some (.int .u32 k) := by
        have h9 : ((cs0.toList.drop t).take 1)[0]? = some (Value.int .u32 k) := by rw [e1]; rfl
        rw [List.getElem?_take] at h9
        simpa using h9
      rw [List.getElem?_drop] at this
      simpa using this
    rw [e3]
    rw [List.getElem?_map] at hk
    unfold kc
    cases hq : kcs[t]? with
    | none => rw [hq] at hk; cases hk
    | some q =>
      rw [hq] at hk
      simp only [Option.map_some, Option.some.injEq, DataW.lit.injEq, Lit.int.injEq, true_and] at hk
      simp [List.getD, hq, hk]
  exact ⟨World.block_lt_of_cell? W _ (hcell 0 (by omega)), hcell⟩
theorem door_met (os : Os) (args : Array Value) : laidMetH Tryd.prog laidD ((World.doorLaid Tryd.prog 400 os).forCall (fun _ _ => 0) ⟨#[], args, []⟩).memory :=
  laidMetH_of_parts3 (fuel := 8) (laidMet_of_run' 8 (by kernel_rfl) (by kernel_rfl)) (by kernel_rfl) (by kernel_rfl)
section
variable {H : Type} {enc : TypeId × Value → H}
theorem Tryd.cells5 : Tryd.prog.cellsOf 5 = 1 := by kernel_rfl
theorem u8_wf {n : Int} (h : (Lit.int .u8 n).wf = true) : 0 ≤ n ∧ n < 256 := by
  have e := h
  have e1 : IntKind.u8.min = 0 := by decide +kernel
  have e2 : IntKind.u8.max = 255 := by decide +kernel
  simp only [Lit.wf, Bool.and_eq_true, decide_eq_true_eq, e1, e2] at e
  omega
theorem bytes_of_trod {W : World} {base : Nat} {v1 : Value} {d1 : DataW H} {p1 : List MemPlace} (hval : Value.okWide Tryd.prog W .any base 22 v1) (h1 : DataW.Trod enc Tryd.prog W 0 (fun _ => true) true 22 v1 d1 p1) : ∃ l : List UInt8, BV W v1 l := by
  obtain ⟨a1, len, cap, rfl⟩ := okWide_slice Tryd.underlying22 hval
  obtain ⟨fuel, hf⟩ := h1
  rcases open_ints Tryd.underlying22 Tryd.underlying5 Tryd.cells5 hf with ⟨hcs, hx⟩ | ⟨a, len', cap', zs, hcs, _, hl, hm, hz, hx, hcell, hwz⟩
  · simp [Value.cells] at hcs
    obtain ⟨rfl, rfl, rfl⟩ := hcs
    exact ⟨[], 0, 0, none, rfl, Nat.le_refl _, by simp, fun _ => rfl, .inl rfl⟩
  · simp [Value.cells] at hcs
    obtain ⟨rfl, rfl, rfl⟩ := hcs
    simp only [if_true] at hz
    obtain ⟨b, o, spot⟩ := a
    have hm' : cap ≤ 9223372036854775807 := by unfold maxLen at hm; omega
    have hlen : ((zs.take len).map fun n => UInt8.ofNat n.toNat).length = len := by simp; omega
    refine ⟨(zs.take len).map fun n => UInt8.ofNat n.toNat, b, cap, some ⟨b, o, spot⟩, by rw [hlen], by rw [hlen]; exact hl, hm', (fun e => by cases e), ?_⟩
    by_cases h0 : len = 0
    · subst h0
      exact .inl (by simp)
    · have hspot : spot = none := by simpa [Addr.add] using World.cell?_spot (hcell 0 (by omega))
      subst hspot
      refine .inr ⟨o, rfl, ?_, fun j c hj => ?_⟩
      · exact World.block_lt_of_cell? W _ (hcell 0 (by omega))
      · have hjl : j < len := by
          rcases Nat.lt_or_ge j len with h | h
          · exact h
          · rw [List.getElem?_eq_none (by rw [hlen]; exact h)] at hj
            cases hj
        have hcj := hcell j (by omega)
        rw [Addr.add_lit] at hcj
        rw [hcj]
        have e : zs.getD j 0 = zs[j]'(by omega) := by simp [List.getD, List.getElem?_eq_getElem (show j < zs.length by omega)]
        have hr := u8_wf (hwz _ (List.getElem_mem (show j < zs.length by omega)))
        rw [e]
        rw [List.getElem?_map, List.getElem?_take, if_pos hjl, List.getElem?_eq_getElem (by omega)] at hj
        simp only [Option.map_some, Option.some.injEq] at hj
        subst hj
        unfold byt
        congr 2
        rw [UInt8.toNat_ofNat']
        omega
end
end Go.Proofs.YtekboemijafplaaDoor
