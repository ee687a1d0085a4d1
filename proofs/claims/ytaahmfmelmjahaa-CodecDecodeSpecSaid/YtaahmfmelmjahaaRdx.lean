/-
  The reader of the codec, where it refuses: it panics, and only the reader has changed.
-/
import Derived.Test.YtaahmfmelmjahaaRdn
import Derived.WalkLawsBesides
namespace Go.Proofs.Ytaahmfmelmjahaa
open Go Go.RowKit
/-- the codec's own panic -/
def bad : List PanicEntry := [{ v := .iface 28 (.int .i64 10), recovered := false }]
/-- it panicked, and only the reader has changed -/
def Refused (g : Nat) (w : World) (e : Ending) (w' : World) : Prop := e = .panicked bad ∧ Chg g w w'
theorem require_no (w : World) : Calls Try.prog 36 #[.bool false] w fun e w' => e = .panicked bad ∧ w' = w := by
  go_enter Try.func36, Try.ntmps36
  go_wp2_with fail
  exact ⟨rfl, rfl, rfl⟩
theorem require_refuse {b : Bool} (h : b = false) (w : World) : Calls Try.prog 36 #[.bool b] w fun e w' => e = .panicked bad ∧ w' = w := by
  subst h
  exact require_no w
set_option maxHeartbeats 1000000 in
theorem take_no (g b n : Nat) (l : List UInt8) (w : World) (h : Rd w g b l) (hn : l.length < n) (hn2 : n ≤ 9223372036854775807) :
    Calls Try.prog 57 #[.pointer (some ⟨g, 0, none⟩), .int .i64 n] w (Refused g w) := by
  obtain ⟨p, hb, hp⟩ := h
  have c0 : w.cell? ⟨g, 0, none⟩ = some (.slice p l.length l.length) := by simp [World.cell?, hb]
  have HR := Lib.hid (fun (c : Bool) (h : c = false) (w : World) => require_refuse h w)
  clear hb hp
  generalize l.length = N at *
  go_enter Try.func57, Try.ntmps57
  go_wp2_with (go_at_call 36; refine (HR.out _ (by first | rfl | (simp; done) | (simp; omega)) _).mono ?_; rintro e w' ⟨rfl, rfl⟩)
  all_goals first
    | exact ⟨rfl, rfl, Chg.refl _ _⟩
    | trace_state
set_option maxHeartbeats 400000 in
theorem next_no (g b : Nat) (w : World) (h : Rd w g b []) : Calls Try.prog 48 #[.pointer (some ⟨g, 0, none⟩)] w (Refused g w) := by
  have h1 := take_no g b 1 [] w h (by simp) (by omega)
  have H1 := Lib.hid h1
  clear h h1
  go_enter Try.func48, Try.ntmps48
  go_wp2_with (go_at_call 57; refine H1.out.mono ?_; rintro e w' ⟨rfl, hc⟩)
  exact ⟨rfl, rfl, hc⟩
end Go.Proofs.Ytaahmfmelmjahaa
