/-
  The reader of the codec: texts, whatever the bytes.
-/
import Derived.Test.YtaahmfmelmjahaaRdm
import Derived.Laws.BytesArg
namespace Go.Proofs.Ytaahmfmelmjahaa
open Go Go.RowKit
/-- a text, behind its size -/
def dtxt (l : List UInt8) : Option (ByteArray × List UInt8) :=
  match dnum l with
  | none => none
  | some (u, r) => if u ≤ r.length then some (⟨(r.take u).toArray⟩, r.drop u) else none
def TxtA (g b : Nat) (l : List UInt8) (w : World) (e : Ending) (w' : World) : Prop :=
  match dtxt l with
  | some (s, r) => e = .returned (.string s) ∧ Rd w' g b r ∧ Chg g w w'
  | none => Refused g w e w'
theorem txtA_no {g b : Nat} {l : List UInt8} {w w' : World} (h : dtxt l = none) (hc : Chg g w w') : TxtA g b l w (.panicked bad) w' := by
  unfold TxtA
  rw [h]
  exact ⟨rfl, hc⟩
theorem txtA_ok {g b : Nat} {s : ByteArray} {l r : List UInt8} {w w' : World} (h : dtxt l = some (s, r)) (hr : Rd w' g b r) (hc : Chg g w w') : TxtA g b l w (.returned (.string s)) w' := by
  unfold TxtA
  rw [h]
  exact ⟨rfl, hr, hc⟩
theorem strOf_byt2 (l : List UInt8) : strOfNums (l.map fun c => (c.toNat : Int)) = ⟨l.toArray⟩ := by
  unfold strOfNums
  rw [List.map_map]
  congr 2
  induction l with
  | nil => rfl
  | cons c l ih => rw [List.map_cons, ih]; simp
theorem bts_string {w : World} {g b n : Nat} {p : Option Addr} {l : List UInt8} (h : Bts w g b p l) (hn : l.length = n) : (convert 27 9 (.slice p n n)).run Try.prog w = .ok (.string ⟨l.toArray⟩) w := by
  subst hn
  rcases h with rfl | ⟨o, rfl, _, _, h3⟩
  · rcases p with _ | a
    · exact run_convert_bytes_nil w 27 5 Try.underlying27 (by kernel_rfl) 0 0 9 Try.underlying9
    · rw [run_convert_bytes_string w 27 9 5 _ _ _ Try.underlying27 (by kernel_rfl) Try.underlying9]
      have := run_bytesToString (P := Try.prog) w a 0 0 [] (run_loadCells_list (P := Try.prog) w a [] (fun j v hj => by cases hj))
      exact this
  · rw [← strOf_byt2]
    refine run_convert_bytes_arg w 27 5 Try.underlying27 (by kernel_rfl) b o l.length l.length (l.map fun c => (c.toNat : Int)) (by simp) (fun i hi => ?_) 9 Try.underlying9
    rw [h3 i l[i] (by rw [List.getElem?_eq_getElem hi])]
    simp [byt, List.getD, List.getElem?_eq_getElem hi]
set_option maxHeartbeats 1000000 in
theorem txt_all (g b : Nat) (l : List UInt8) (w : World) (h : Rd w g b l) (hl : l.length ≤ 1099511627776) :
    Calls Try.prog 51 #[.pointer (some ⟨g, 0, none⟩)] w (TxtA g b l w) := by
  have HR := Lib.hid (fun (c : Bool) (h : c = true) (w : World) => require_of h w)
  have HX := Lib.hid (fun (c : Bool) (h : c = false) (w : World) => require_refuse h w)
  have hn := num_all g b l w h hl
  unfold NumA at hn
  clear h
  cases hd : dnum l with
  | none =>
    have hno : dtxt l = none := by unfold dtxt; rw [hd]
    simp only [hd] at hn
    have HN := Lib.hid hn
    have HNO := Lib.hid hno
    clear hn hno hd
    go_enter Try.func51, Try.ntmps51
    go_wp2_with (go_at_call 50; refine HN.out.mono ?_; rintro e w' ⟨rfl, hc2⟩)
    exact ⟨rfl, txtA_no HNO.out hc2⟩
  | some a =>
    obtain ⟨u, r⟩ := a
    have hno := fun h : ¬ u ≤ r.length => (show dtxt l = none by unfold dtxt; rw [hd]; simp only; rw [if_neg h])
    have hok := fun h : u ≤ r.length => (show dtxt l = some (⟨(r.take u).toArray⟩, r.drop u) by unfold dtxt; rw [hd]; simp only; rw [if_pos h])
    have hu := (dnum_only hd).2
    have hrl : r.length ≤ 1099511627776 := by
      have := congrArg List.length (dnum_only hd).1
      rw [List.length_append] at this
      omega
    simp only [hd] at hn
    have HN := Lib.hid hn
    have HNO := Lib.hid hno
    have HOK := Lib.hid hok
    clear hn hno hok hd
    go_enter Try.func51, Try.ntmps51
    go_wp2_with fail
    refine HN.out.mono ?_
    rintro e w1 ⟨rfl, hr, hc⟩
    have hr' := hr
    obtain ⟨p, hb, hp⟩ := hr'
    have c0 : w1.cell? ⟨g, 0, none⟩ = some (.slice p r.length r.length) := by simp [World.cell?, hb]
    clear hb hp
    by_cases hle : u ≤ r.length
    · have ht := take_ok g b u r w1 hr hle (by omega)
      have HT := Lib.hid ht
      have HLE := Lib.hid hle
      have htl : (r.take u).length = u := by rw [List.length_take]; omega
      have HTL := Lib.hid htl
      clear ht hr htl
      generalize hN : r.length = N at *
      clear hN
      go_wp2_with (first | (go_at_call 36; refine (HR.out _ (by first | rfl | (simp; done) | (simp; omega)) _).mono ?_; rintro e w' ⟨rfl, rfl⟩) | (go_at_call 57; refine HT.out.mono ?_; rintro e w' ⟨p', rfl, hp', hr', hc'⟩; have hst := bts_string hp' HTL.out))
      go_ret
      exact txtA_ok (HOK.out HLE.out) hr' (hc.trans hc')
    · clear hr
      have HLE := Lib.hid hle
      generalize hN : r.length = N at *
      clear hN
      go_wp2_with (go_at_call 36; refine (HX.out _ (by first | rfl | (simp; done) | (simp; omega)) _).mono ?_; rintro e w' ⟨rfl, rfl⟩)
      exact ⟨rfl, txtA_no (HNO.out HLE.out) hc⟩
end Go.Proofs.Ytaahmfmelmjahaa
