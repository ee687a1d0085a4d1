/-
  The reference's Cut, where it gives an error.
-/
import Derived.Test.YtpempgajejbdoaaCut
namespace Go.Proofs.Ytpempgajejbdoaa
open Go Go.RowKit
variable {F : Nat → Prop}
set_option maxHeartbeats 2000000 in
theorem rcut_bad (v : Value) (n : Nt) (a b : Int) (on : Bool) (w : World) (h : NV F w v n) (hE : cutE n a b ≠ 0) : Calls Try.prog 19 #[v, .int .i64 a, .int .i64 b, .bool on] w (RetN F zero (cutE n a b) w) := by
  obtain ⟨pq, N, cq, pa, M, ca, rfl, HO, hq1, hq2, ha1, ha2⟩ := h.lo.op
  have HC : Hid (∀ w', Below w.heap.size w w' → Calls Try.prog 14 #[nval pq N cq pa M ca] w' (Ret (.int .i64 (chk n)) w')) := Lib.hid fun w' hb => rcheck_any _ n w' (HO.out.below hb).nv
  have HBX := Lib.hid (box2 w (.slice pq N cq) (.slice pa M ca) (.slice none 0 0) (.slice none 0 0))
  have HSA := Lib.hid (fun W => site_any a W)
  have HSB := Lib.hid (fun W => site_any b W)
  clear h
  cases hok : okN n
  · have HE : Hid (cutE n a b = 60) := Lib.hid (by unfold cutE; rw [if_neg (by simp [hok])])
    rw [HE.out]
    rw [chk_no hok] at HC
    clear hok hE HE
    go_enter Try.func19, Try.ntmps19
    go_wp2_with (first
      | (go_at_call 14; refine (HC.out _ HBX.out.below).mono ?_; rintro e w1 ⟨rfl, hb1⟩; obtain ⟨⟨c0, c1⟩, f0, r, hz, HB⟩ := HBX.out.later hb1; clear hb1)
      | (refine nt_store rfl (.tmp 8) (.tmp 17) rfl (w.heap.size + 1) _ _ _ r.out rfl rfl rfl ⟨rfl, rfl⟩ ?_; rintro w4 r2 hc2))
    exact bodyPost_ret (results_nt rfl _ _ _ _ _ _ rfl rfl r2.out) rfl ⟨.agg #[.slice none 0 0, .slice none 0 0], rfl, zero_NV _, Chg.below HB.out HB.out.size (by omega) hc2⟩
  · have hen : endsB a b = false := by
      cases he : endsB a b with
      | false => rfl
      | true => exact absurd (by unfold cutE; rw [if_pos hok, if_pos he]) hE
    have HE : Hid (cutE n a b = 1) := Lib.hid (by unfold cutE; rw [if_pos hok, if_neg (by simp [hen])])
    rw [HE.out]
    rw [chk_ok hok] at HC
    have hcs : siteB a = false ∨ (siteB a = true ∧ siteB b = false) ∨ (siteB a = true ∧ siteB b = true ∧ a = b) := by
      unfold endsB at hen
      cases h1 : siteB a
      · exact .inl rfl
      · cases h2 : siteB b
        · exact .inr (.inl ⟨rfl, rfl⟩)
        · rw [h1, h2] at hen
          simp at hen
          exact .inr (.inr ⟨rfl, rfl, hen⟩)
    clear hok hE HE hen
    rcases hcs with h1 | ⟨h1, h2⟩ | ⟨h1, h2, rfl⟩
    · rw [h1] at HSA
      clear h1
      go_enter Try.func19, Try.ntmps19
      go_wp2_with (first
        | (go_at_call 14; refine (HC.out _ HBX.out.below).mono ?_; rintro e w1 ⟨rfl, hb1⟩; obtain ⟨⟨c0, c1⟩, f0, r, hz, HB⟩ := HBX.out.later hb1; clear hb1)
        | (go_at_call 33; refine (HSA.out _).mono ?_; rintro e w2 ⟨rfl, rfl⟩)
        | (refine nt_store rfl (.tmp 8) (.tmp 31) rfl (w.heap.size + 1) _ _ _ r.out rfl rfl rfl ⟨rfl, rfl⟩ ?_; rintro w4 r2 hc2))
      exact bodyPost_ret (results_nt rfl _ _ _ _ _ _ rfl rfl r2.out) rfl ⟨.agg #[.slice none 0 0, .slice none 0 0], rfl, zero_NV _, Chg.below HB.out HB.out.size (by omega) hc2⟩
    · rw [h1] at HSA
      rw [h2] at HSB
      clear h1 h2
      go_enter Try.func19, Try.ntmps19
      go_wp2_with (first
        | (go_at_call 14; refine (HC.out _ HBX.out.below).mono ?_; rintro e w1 ⟨rfl, hb1⟩; obtain ⟨⟨c0, c1⟩, f0, r, hz, HB⟩ := HBX.out.later hb1; clear hb1)
        | (go_at_call 33; refine (HSA.out _).mono ?_; rintro e w2 ⟨rfl, rfl⟩; clear HSA)
        | (go_at_call 33; refine (HSB.out _).mono ?_; rintro e w3 ⟨rfl, rfl⟩)
        | (refine nt_store rfl (.tmp 8) (.tmp 31) rfl (w.heap.size + 1) _ _ _ r.out rfl rfl rfl ⟨rfl, rfl⟩ ?_; rintro w4 r2 hc2))
      exact bodyPost_ret (results_nt rfl _ _ _ _ _ _ rfl rfl r2.out) rfl ⟨.agg #[.slice none 0 0, .slice none 0 0], rfl, zero_NV _, Chg.below HB.out HB.out.size (by omega) hc2⟩
    · rw [h1] at HSA
      clear h1 h2 HSB
      have hb : (a == a) = true := by simp
      go_enter Try.func19, Try.ntmps19
      go_wp2_with (first
        | (go_at_call 14; refine (HC.out _ HBX.out.below).mono ?_; rintro e w1 ⟨rfl, hb1⟩; obtain ⟨⟨c0, c1⟩, f0, r, hz, HB⟩ := HBX.out.later hb1; clear hb1)
        | (go_at_call 33; refine (HSA.out _).mono ?_; rintro e w2 ⟨rfl, rfl⟩)
        | (refine nt_store rfl (.tmp 8) (.tmp 31) rfl (w.heap.size + 1) _ _ _ r.out rfl rfl rfl ⟨rfl, rfl⟩ ?_; rintro w4 r2 hc2))
      exact bodyPost_ret (results_nt rfl _ _ _ _ _ _ rfl rfl r2.out) rfl ⟨.agg #[.slice none 0 0, .slice none 0 0], rfl, zero_NV _, Chg.below HB.out HB.out.size (by omega) hc2⟩
end Go.Proofs.Ytpempgajejbdoaa
