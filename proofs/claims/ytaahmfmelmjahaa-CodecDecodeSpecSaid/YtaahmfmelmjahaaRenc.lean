/-
  The reference's encoder.
-/
import Derived.Test.YtaahmfmelmjahaaWr
import Derived.Test.YtaahmfmelmjahaaDep
import Derived.Test.YtaahmfmelmjahaaSize
import Derived.Deep.RegionLaw
namespace Go.Proofs.Ytaahmfmelmjahaa
open Go Go.RowKit
/-- it returns these bytes, in new memory -/
def RetO (l : List UInt8) (w : World) (e : Ending) (w' : World) : Prop := ∃ v, e = .returned v ∧ Own w' v (l.map byt) ∧ (∀ j, v.ownBlock = some j → w.heap.size ≤ j) ∧ Below w.heap.size w w'
theorem own_src {w : World} {v : Value} {l : List UInt8} (h : Own w v (l.map byt)) : Src Try.prog 1 27 v l.length (l.map byt) w := by
  rcases h with ⟨rfl, hx⟩ | ⟨g, cap, rfl, h⟩
  · have hl : l = [] := by simpa using hx
    subst hl
    exact Src.ofNil w Try.underlying27 0
  · have := Src.ofSlice (size := 1) w Try.underlying27 ⟨g, 0, none⟩ l.length cap (l.map byt) (by simp) (fun j u hj => by
      have := h.cells j u hj
      simpa [Addr.add_lit] using this) (fun u hu => by
      obtain ⟨c, _, rfl⟩ := List.mem_map.1 hu
      rfl)
    simpa using this
theorem own_one (w : World) (x : Value) (T : TypeId) : Own (w.alloc (.cells #[x] T)) (.slice (some ⟨w.heap.size, 0, none⟩) 1 1) [x] := by
  have h := Own.made w #[x] T 1 (by simp) (by simp [maxLen])
  simpa using h
/-- an append to the call's own slice: what the caller learns -/
theorem fin_own {w w2 w' : World} {v v' : Value} (hv : ∀ j, v.ownBlock = some j → w.heap.size ≤ j) (hbw : Below w.heap.size w w2) (hg : w2.grownBy w' v.ownBlock) (hnew : v'.ownBlock = v.ownBlock ∨ ∃ k, v'.ownBlock = some k ∧ w2.heap.size ≤ k) :
    (∀ j, v'.ownBlock = some j → w.heap.size ≤ j) ∧ Below w.heap.size w w' := by
  refine ⟨fun j hj => ?_, hbw.grown hg hbw.size fun k hk => hv k hk⟩
  rcases hnew with e | ⟨k, e, hk⟩
  · exact hv j (by rw [← e]; exact hj)
  · rw [e] at hj
    have := hbw.size
    simp only [Option.some.injEq] at hj
    omega
set_option maxRecDepth 100000 in
set_option maxHeartbeats 1000000 in
theorem rnum_any : ∀ (f u : Nat) (w : World), BdF f u → u ≤ 18446744073709551615 → f ≤ 9 → Calls Try.prog 43 #[.int .u64 u] w (RetO (numF (f + 1) u) w) := by
  intro f
  induction f with
  | zero =>
    intro u w hb hu _
    have hlt : u < 128 := by unfold BdF at hb; simp at hb; omega
    have hbx : (Value.int .u8 (u : Int)) = byt (UInt8.ofNat u) := (byt_ofNat (by omega)).symm
    have HB := Lib.hid hbx
    have hr := numF_small (f := 0) hlt
    have HR := Lib.hid hr
    clear hbx hr hb
    go_enter Try.func43, Try.ntmps43
    go_wp2_with fail
    go_ret
    exact ⟨.slice (some ⟨w.heap.size, 0, none⟩) 1 1, rfl, by rw [HR.out]; show Own _ _ [byt (UInt8.ofNat u)]; rw [← HB.out]; exact own_one _ _ _, (fun j hj => by simp only [Value.ownBlock, Option.some.injEq] at hj; omega), (Below.refl _ _).alloc (Nat.le_refl _) _⟩
  | succ f ih =>
    intro u w hb hu hf
    by_cases hlt : u < 128
    · have hbx : (Value.int .u8 (u : Int)) = byt (UInt8.ofNat u) := (byt_ofNat (by omega)).symm
      have HB := Lib.hid hbx
      have hr := numF_small (f := f + 1) hlt
      have HR := Lib.hid hr
      clear hbx hr hb ih
      go_enter Try.func43, Try.ntmps43
      go_wp2_with fail
      go_ret
      exact ⟨.slice (some ⟨w.heap.size, 0, none⟩) 1 1, rfl, by rw [HR.out]; show Own _ _ [byt (UInt8.ofNat u)]; rw [← HB.out]; exact own_one _ _ _, (fun j hj => by simp only [Value.ownBlock, Option.some.injEq] at hj; omega), (Below.refl _ _).alloc (Nat.le_refl _) _⟩
    · obtain ⟨i0, hi, hz0, hz1, hz2⟩ := info_parts Try.info5
      have hb2 : BdF f (u / 128) := by
        obtain ⟨g, e, hg⟩ := hb.next (by omega)
        have : g = f := by omega
        subst this
        exact hg
      have hc := fun x => ih (u / 128) (w.alloc x) hb2 (by omega) (by omega)
      have hbx : (Value.int .u8 ((u : Int) % 128 + 128)) = byt (UInt8.ofNat (u % 128 + 128)) := by rw [byt_ofNat (by omega)]; congr 1
      have HB := Lib.hid hbx
      have hr := numF_big (f := f + 1) (u := u) (by omega)
      have HR := Lib.hid hr
      have hn := numF_length (f + 1) (u / 128)
      generalize numF (f + 1) (u / 128) = nm at *
      have hl2 : nm.length ≤ 10 := by omega
      have HC := Lib.hid hc
      clear hbx hr hb hb2 ih hc hn
      go_enter Try.func43, Try.ntmps43
      go_wp2_with fail
      refine (HC.out _).mono ?_
      rintro e w2 ⟨v2, rfl, hown2, hv2, hb2⟩
      have ho1 := (own_one w (.int .u8 ((u : Int) % 128 + 128)) 5).keep (w' := w2) hb2.size fun k hk => hb2.block k (by simp only [Value.ownBlock, Option.some.injEq] at hk; simp; omega)
      have HO := Lib.hid ho1
      have hsrc := own_src hown2
      have hl3 : nm.length + 1 ≤ 1099511627776 := by omega
      have hbw : Below w.heap.size w w2 := (one_new _ _).trans (hb2.mono (by simp))
      clear ho1
      go_wp2_with (at_builtin; refine wpList_own rfl (.tmp 12) (.tmp 15) 27 27 rfl 5 i0 (.int .u8 0) 1 Try.underlying27 hi hz0 hz1 hz2 rfl _ v2 [.int .u8 ((u : Int) % 128 + 128)] rfl HO.out nm.length (nm.map byt) rfl hsrc (by simp only [List.length_singleton]; unfold maxLen; omega) (by simp only [List.length_singleton]; omega) ?next)
      case next =>
        intro v' w' hown hgrow hnew
        go_wp2
        go_ret
        obtain ⟨k1, k2⟩ := fin_own (fun j hj => by simp only [Value.ownBlock, Option.some.injEq] at hj; omega) hbw hgrow hnew
        exact ⟨v', rfl, by rw [HR.out, List.map_cons, ← HB.out]; exact hown, k1, k2⟩
theorem rnum_ret (u : Nat) (w : World) (h : U64 u) : Calls Try.prog 43 #[.int .u64 u] w (RetO (num u) w) := rnum_any 9 u w (BdF.start h) (by unfold U64 at h; omega) (Nat.le_refl _)
end Go.Proofs.Ytaahmfmelmjahaa
