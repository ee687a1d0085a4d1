/-
  Merkle: Prove.
-/
import Derived.Test.YteeabenmfmeooaaDoorPv
namespace Go.Proofs.YteeabenmfmeooaaDoor
open Go Go.RowKit
def proveD (l : List (List UInt8)) (i : Int) : List (List UInt8) := if placeB (l.length : Int) i = true then pathL i.toNat l else []
def proveE (l : List (List UInt8)) (i : Int) : Int := if placeB (l.length : Int) i = true then 0 else 1
def ProveR (p : List (List UInt8)) (e' : Int) (w : World) (e : Ending) (w' : World) : Prop := ∃ v, e = .returned (.tuple #[v, .int .i64 e']) ∧ Hid (RowI w w' v p)
set_option maxRecDepth 100000 in
set_option maxHeartbeats 2000000 in
theorem Prove_any (v : Value) (l : List (List UInt8)) (i : Int) (w : World) (hv' : LB w v l) (h1 : ∀ x ∈ l, x.length ≤ 1000000) (hk : KOK w) : Calls Tryd.prog 12 #[v, .int .i64 i] w (ProveR (proveD l i) (proveE l i) w) := by
  have HP := Lib.hid (isPlace_any (l.length : Int) i w)
  obtain ⟨p, c, rfl⟩ : ∃ p c, v = .slice p l.length c := by
    obtain ⟨_, c, p, e, _⟩ := hv'
    exact ⟨p, c, e⟩
  cases hp : placeB (l.length : Int) i
  · have e1 : proveD l i = [] := by unfold proveD; rw [hp]; rfl
    have e2 : proveE l i = 1 := by unfold proveE; rw [hp]; rfl
    rw [e1, e2]
    rw [hp] at HP
    clear hp e1 e2 hv' h1 hk
    go_enter Tryd.func12, Tryd.ntmps12
    go_wp2_with (go_at_call 23; refine HP.out.mono ?_; rintro e w1 ⟨rfl, rfl⟩)
    go_ret2
    exact ⟨_, rfl, Lib.hid ⟨OwnN.nil 32 w1, (fun k e => by cases e), Below.refl _ _⟩⟩
  · obtain ⟨a, s, rfl, hs, has, hs2⟩ := place_nat hp
    have hs : l.length = s := by omega
    subst hs
    have e1 : proveD l (a : Int) = pathL a l := by unfold proveD; rw [hp]; rfl
    have e2 : proveE l (a : Int) = 0 := by unfold proveE; rw [hp]; rfl
    rw [e1, e2]
    have HV := Lib.hid (prove_any _ l a w hv' hs2 has h1 hk)
    rw [hp] at HP
    clear hp e1 e2 hv' h1 hk
    go_enter Tryd.func12, Tryd.ntmps12
    go_wp2_with (first
      | (go_at_call 23; refine HP.out.mono ?_; rintro e w1 ⟨rfl, rfl⟩)
      | (go_at_call 24; refine HV.out.mono ?_; rintro e w2 ⟨u, rfl, hR⟩))
    go_ret2
    exact ⟨_, rfl, hR⟩
end Go.Proofs.YteeabenmfmeooaaDoor
