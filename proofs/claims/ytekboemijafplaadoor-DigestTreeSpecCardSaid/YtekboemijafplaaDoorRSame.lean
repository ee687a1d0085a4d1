/-
  Digest: the reference's Same of two places of one list.
-/
import Derived.Test.YtekboemijafplaaDoorClNo
import Derived.Test.YtekboemijafplaaDoorEq
namespace Go.Proofs.YtekboemijafplaaDoor
open Go Go.RowKit
set_option maxRecDepth 100000 in
set_option maxHeartbeats 1000000 in
theorem rsame_any (v v' : Value) (l : List (List UInt8)) (w : World) (hl : l.length ≤ 1000000) (h32 : D32 l) (hv : LD w v l) (hv' : LD w v' l) : Calls Tryd.prog 21 #[v, v'] w (Ret (.bool true) w) := by
  have HV := Lib.hid hv
  have HV' := Lib.hid hv'
  have H32 := Lib.hid h32
  obtain ⟨b1, cap1, p1, rfl, _, _, _, h4⟩ := hv
  obtain ⟨b2, cap2, p2, rfl, _, _, _, h4'⟩ := hv'
  clear h32
  generalize hn : l.length = n at *
  go_enter Tryd.func21, Tryd.ntmps21
  go_wp2_with fail
  go_loopw [5] (fun i wr => ∃ k : Nat, k ≤ n ∧ i = .int .i64 (k : Int) ∧ Hid (Below w.heap.size w wr)) (fun i _ => n - (intOf i).toNat)
  case atStart => exact ⟨0, Nat.zero_le _, rfl, Lib.hid (Below.refl _ _)⟩
  case round =>
    obtain ⟨k, hk, rfl, hB⟩ := hrel
    by_cases hlt : k < n
    · have c1 : (k : Int) < (n : Int) := by omega
      have hkl : k < l.length := by omega
      rcases h4 with h4 | ⟨o1, rfl, _⟩
      · rw [h4] at hkl; exact absurd hkl (by simp)
      rcases h4' with h4' | ⟨o2, rfl, _⟩
      · rw [h4'] at hkl; exact absurd hkl (by simp)
      obtain ⟨d, hd⟩ : ∃ d, l[k]? = some d := ⟨l[k], List.getElem?_eq_getElem hkl⟩
      have hd32 := Lib.hid (H32.out d (List.mem_of_getElem? hd))
      have HR := Lib.hid ((HV.out.below hB.out).at H32.out k d hd)
      have HR' := Lib.hid ((HV'.out.below hB.out).at H32.out k d hd)
      have heq : ∀ w, (Op.equalIn 10000 26 (dgv d) (dgv d)).run Tryd.prog w = .ok true w := fun w => by rw [dg_equal _ _ hd32.out hd32.out, beq_self_eq_true]
      go_wp2_with fail
      have hsd : (Tryd.prog.info? 26).map (·.size) = some (d.map byt).length := by rw [size26, List.length_map, hd32.out]
      refine wp_region_held_drew (S := fun w' => w'.rangeAt b1 (o1 + k * 32) (d.map byt) ∧ w'.rangeAt b2 (o2 + k * 32) (d.map byt)) (by kernel_rfl) ⟨HR.out, HR'.out⟩ (fun hHeld => ?_)
      refine take_at (i := 0) (k := 17) (v := .slice (some ⟨b1, o1, none⟩) n cap1) rfl rfl (by kernel_rfl) (by kernel_rfl) (by kernel_rfl) (fun _ _ _ h => h) (Or.inl ⟨by rfl, fun w _ => rfl⟩) hHeld ?_
      try simp only [Act.put, List.setIfInBounds_toArray, List.set_cons_zero, List.set_cons_succ]
      refine take_at (i := 1) (k := 18) (v := .int .i64 (k : Int)) rfl rfl (by kernel_rfl) (by kernel_rfl) (by kernel_rfl) (fun _ _ _ h => h) (Or.inl ⟨by rfl, fun w _ => rfl⟩) hHeld ?_
      try simp only [Act.put, List.setIfInBounds_toArray, List.set_cons_zero, List.set_cons_succ]
      refine take_at (i := 2) (k := 19) (v := .pointer (some ⟨b1, o1 + k * 32, none⟩)) rfl rfl (by kernel_rfl) (by kernel_rfl) (by kernel_rfl) (fun _ _ _ h => h) (Or.inl ⟨by rfl, fun w _ => by go_simp⟩) hHeld ?_
      try simp only [Act.put, List.setIfInBounds_toArray, List.set_cons_zero, List.set_cons_succ]
      refine take_at (i := 3) (k := 20) (v := dgv d) rfl rfl (by kernel_rfl) (by kernel_rfl) (by kernel_rfl) (fun _ _ _ h => h) (yieldsIf_load_mid (by rfl) 26 (.tmp 19) rfl b1 (o1 + k * 32) rfl (d.map byt) _ (fun w' h => h.1) Tryd.underlying26 rfl hsd) hHeld ?_
      try simp only [Act.put, List.setIfInBounds_toArray, List.set_cons_zero, List.set_cons_succ]
      refine take_at (i := 4) (k := 21) (v := .slice (some ⟨b2, o2, none⟩) n cap2) rfl rfl (by kernel_rfl) (by kernel_rfl) (by kernel_rfl) (fun _ _ _ h => h) (Or.inl ⟨by rfl, fun w _ => rfl⟩) hHeld ?_
      try simp only [Act.put, List.setIfInBounds_toArray, List.set_cons_zero, List.set_cons_succ]
      refine take_at (i := 5) (k := 22) (v := .int .i64 (k : Int)) rfl rfl (by kernel_rfl) (by kernel_rfl) (by kernel_rfl) (fun _ _ _ h => h) (Or.inl ⟨by rfl, fun w _ => rfl⟩) hHeld ?_
      try simp only [Act.put, List.setIfInBounds_toArray, List.set_cons_zero, List.set_cons_succ]
      refine take_at (i := 6) (k := 23) (v := .pointer (some ⟨b2, o2 + k * 32, none⟩)) rfl rfl (by kernel_rfl) (by kernel_rfl) (by kernel_rfl) (fun _ _ _ h => h) (Or.inl ⟨by rfl, fun w _ => by go_simp⟩) hHeld ?_
      try simp only [Act.put, List.setIfInBounds_toArray, List.set_cons_zero, List.set_cons_succ]
      refine take_at (i := 7) (k := 24) (v := dgv d) rfl rfl (by kernel_rfl) (by kernel_rfl) (by kernel_rfl) (fun _ _ _ h => h) (yieldsIf_load_mid (by rfl) 26 (.tmp 23) rfl b2 (o2 + k * 32) rfl (d.map byt) _ (fun w' h => h.2) Tryd.underlying26 rfl hsd) hHeld ?_
      try simp only [Act.put, List.setIfInBounds_toArray, List.set_cons_zero, List.set_cons_succ]
      refine take_at (i := 8) (k := 25) (v := .bool false) rfl rfl (by kernel_rfl) (by kernel_rfl) (by kernel_rfl) (fun _ _ _ h => h) (Or.inl ⟨by rfl, fun w _ => by go_simp⟩) hHeld ?_
      try simp only [Act.put, List.setIfInBounds_toArray, List.set_cons_zero, List.set_cons_succ]
      refine wpAnyH_done (by kernel_rfl) ?_ _
      clear hHeld
      go_wp2_with fail
      go_roundw
      case rel => exact ⟨k + 1, by omega, by go_num, Lib.hid (below_drew hB.out)⟩
      case measure => simp [intOf]; omega
    · have c1 : ¬ (k : Int) < (n : Int) := by omega
      go_wp2_with fail
      go_ret
      exact ⟨rfl, hB.out⟩
end Go.Proofs.YtekboemijafplaaDoor
