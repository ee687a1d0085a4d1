/-
  The reader of the codec: lists, given values one level down.
-/
import Derived.Test.YtaahmfmelmjahaaRdl
namespace Go.Proofs.Ytaahmfmelmjahaa
open Go Go.RowKit
theorem lstA_ok {g b d : Nat} {l r : List UInt8} {f : F} {L : Value} {w w' : World} (h : dlst d l = some (f, r)) (hL : Sl (Cut (old w.heap.size) w') L f) (hr : Rd w' g b r) (hc : Chg g w w') : LstA g b d l w (.returned L) w' := by
  unfold LstA
  rw [h]
  exact ⟨L, rfl, hL, hr, hc⟩
set_option maxRecDepth 100000 in
set_option maxHeartbeats 2000000 in
theorem list_succ (d : Nat) (hv : ValOK d) (hd : d ≤ 15) (g b : Nat) (l : List UInt8) (w : World) (h : Rd w g b l) (hb : b < w.heap.size) (hl : l.length ≤ 1099511627776) :
    Calls Try.prog 52 #[.pointer (some ⟨g, 0, none⟩), .int .i64 (d + 1 : Nat)] w (LstA g b (d + 1) l w) := by
  obtain ⟨i1, hj, hy0, hy1, hy2⟩ := info_parts Try.info24
  have HR := Lib.hid (fun (c : Bool) (h : c = true) (w : World) => require_of h w)
  have hn := num_all g b l w h hl
  have HLT := Lib.hid h.lt
  unfold NumA at hn
  clear h
  cases hdn : dnum l with
  | none =>
    have hno : dlst (d + 1) l = none := by simp only [dlst, hdn]
    simp only [hdn] at hn
    have HN := Lib.hid hn
    have HNO := Lib.hid hno
    clear hn hno hdn
    go_enter Try.func52, Try.ntmps52
    go_wp2_with (first | (go_at_call 36; refine (HR.out _ (by first | rfl | (simp; done) | (simp; omega)) _).mono ?_; rintro e w' ⟨rfl, hw⟩; subst w') | (go_at_call 50; refine HN.out.mono ?_; rintro e w' ⟨rfl, hc2⟩))
    exact ⟨rfl, lstA_no HNO.out hc2⟩
  | some a =>
    obtain ⟨u, r0⟩ := a
    have hu := (dnum_only hdn).2
    have hrl : r0.length ≤ l.length := by
      have := congrArg List.length (dnum_only hdn).1
      rw [List.length_append] at this
      omega
    have hls : dlst (d + 1) l = decl (decv d) u r0 := by simp only [dlst, hdn]
    simp only [hdn] at hn
    have HN := Lib.hid hn
    have HLS := Lib.hid hls
    have HV := Lib.hid hv
    clear hn hls hdn hv
    go_enter Try.func52, Try.ntmps52
    go_wp2_with (go_at_call 36; refine (HR.out _ (by first | rfl | (simp; done) | (simp; omega)) _).mono ?_; rintro e w' ⟨rfl, hw⟩; subst w')
    refine HN.out.mono ?_
    rintro e w1 ⟨rfl, hr1, hc1⟩
    have hst : DI g b d u r0 w w1 (.slice none 0 0) 0 .nil [] r0 := ⟨by
      simp only [Nat.sub_zero]
      cases decl (decv d) u r0 with
      | none => rfl
      | some a => rfl, OwnN.nil 4 _, rfl, rfl, (fun k h => by cases h), hr1, hc1, by omega⟩
    clear hr1 hc1
    go_wp2_with fail
    go_loopw [5, 11] (fun v i wr => ∃ (j : Nat) (pre : F) (xs : List Value) (l' : List UInt8), j ≤ u ∧ i = .int .u64 j ∧ Hid (DI g b d u r0 w wr v j pre xs l')) (fun _ i _ => u - (intOf i).toNat)
    case atStart => exact ⟨0, .nil, [], r0, Nat.zero_le _, rfl, hst⟩
    case round =>
      obtain ⟨j, pre, xs, l', hju, rfl, hI⟩ := hrel
      clear hst
      by_cases hlt : j < u
      · have hle := hI.out.le
        have hx := HV.out g b l' wr hI.out.rd (Nat.lt_of_lt_of_le hb hI.out.chg.size) (by omega)
        unfold ValA at hx
        cases hdx : decv d l' with
        | none =>
          simp only [hdx] at hx
          have HX := Lib.hid hx
          have HNO := Lib.hid (HLS.out.trans (decl_stop hlt hI.out.eq hdx))
          have HC := Lib.hid hI.out.chg
          clear hx hdx hI
          go_wp2_with (go_at_call 35; refine HX.out.mono ?_; rintro e w' ⟨rfl, hc2⟩)
          exact ⟨rfl, lstA_no HNO.out (HC.out.trans hc2)⟩
        | some x =>
          simp only [hdx] at hx
          have HX := Lib.hid hx
          have HDX := Lib.hid hdx
          clear hx hdx
          go_wp2_with fail
          refine HX.out.mono ?_
          rintro e w4 ⟨L, rfl, hok, hL, hr4, hc4⟩
          obtain ⟨pL, cL, eL, _⟩ := hL.shape
          subst eL
          have hown := hI.out.own.keep hc4.size fun k hk => hc4.block k (hI.out.own.lt hk) (fun e => by have := hI.out.ge k hk; have := HLT.out; omega)
          have HO := Lib.hid hown
          have HOK := Lib.hid hok
          have HL := Lib.hid hL
          have HR4 := Lib.hid hr4
          have HC4 := Lib.hid hc4
          clear hown hok hL hr4 hc4
          go_wp2_with (at_builtin; refine wpList_ownN rfl (.tmp 13) (.tmp 18) 22 22 rfl 24 i1 _ 56 Try.underlying22 hj hy0 hy1 (by omega) hy2 rfl u5 _ xs rfl (HO.out.alloc _) 1 _ rfl (src_val (heap_alloc_new _ _)) (by unfold maxLen; omega) (by omega) ?nexv)
          case nexv =>
            intro v7 w7 hown7 hgrow7 hnew7
            have hnx := hI.out.next hlt (by omega) HDX.out HLT.out hb HOK.out HL.out HR4.out HC4.out hown7 hgrow7 (by simpa using hnew7)
            have HNX := Lib.hid hnx
            clear hnx hown7 hgrow7 hnew7
            go_wp2_with fail
            go_roundw
            case rel => exact ⟨j + 1, _, _, _, by omega, by go_num, HNX.out⟩
            case measure => simp [intOf]; omega
      · obtain rfl : j = u := by omega
        obtain ⟨e1, e2⟩ := hI.out.done
        have HE := Lib.hid (HLS.out.trans e1)
        have HE2 := Lib.hid e2
        clear e1 e2
        go_wp2_with fail
        go_ret
        exact lstA_ok HE.out HE2.out hI.out.rd hI.out.chg
end Go.Proofs.Ytaahmfmelmjahaa
