/-
  What the codec says of values, as functions on forests.
-/
import Derived.Test.YtaahmfmelmjahaaVal
namespace Go.Proofs.Ytaahmfmelmjahaa
open Go Go.RowKit
/-- is a value well formed, given whether its elements are? -/
def wfv (k n : Int) (sz len : Nat) (sub : Bool) : Bool :=
  if k = 1 then sz == 0 && len == 0 else if k = 2 then n == 0 && len == 0 else if k = 3 then n == 0 && (sz == 0 && sub) else false
def F.wf : F → Bool
  | .nil => true
  | .cons k n s q r => wfv k n s.size q.len (F.wf q) && F.wf r
/-- the depth of a value, by that of its elements -/
def depv (k : Int) (d : Nat) : Nat := if k = 3 then d + 1 else 0
def F.dep : F → Nat
  | .nil => 0
  | .cons k _ _ q r => max (depv k (F.dep q)) (F.dep r)
/-- the unsigned form of a number -/
def uns (n : Int) : Nat := if 0 ≤ n then 2 * n.toNat else 2 * (-(n + 1)).toNat + 1
/-- the number that stands behind the kind -/
def hdv (k n : Int) (sz len : Nat) : Nat := if k = 2 then sz else if k = 3 then len else uns n
/-- the digits of a number, at most so many -/
def numF : Nat → Nat → List UInt8
  | 0, _ => []
  | f + 1, u => if u < 128 then [UInt8.ofNat u] else UInt8.ofNat (u % 128 + 128) :: numF f (u / 128)
def num (u : Nat) : List UInt8 := numF 10 u
/-- how many digits -/
def nlen (u : Nat) : Nat := (num u).length
/-- the encodings, one behind the other -/
def F.enc : F → List UInt8
  | .nil => []
  | .cons k n s q r => (UInt8.ofNat k.toNat :: (num (hdv k n s.size q.len) ++ (s.data.toList ++ F.enc q))) ++ F.enc r
def F.sz : F → Nat
  | .nil => 0
  | .cons k n s q r => (1 + nlen (hdv k n s.size q.len) + s.size + F.sz q) + F.sz r
/-- what Few counts, when it counts to the end -/
def F.wt : F → Nat
  | .nil => 0
  | .cons _ _ s q r => (1 + s.size / 200 + F.wt q) + F.wt r
/-- few elements, down to a depth -/
def F.fits : Int → F → Prop
  | _, .nil => True
  | d, .cons _ _ _ q r => (0 ≤ d ∧ q.len ≤ 150 ∧ F.fits (d - 1) q) ∧ F.fits d r
theorem numF_length : ∀ (f u : Nat), (numF f u).length ≤ f
  | 0, _ => Nat.zero_le _
  | f + 1, u => by
    unfold numF
    split
    · simp
    · simpa using numF_length f (u / 128)
theorem nlen_le (u : Nat) : nlen u ≤ 10 := numF_length 10 u
theorem F.sz_enc : ∀ f : F, f.enc.length = f.sz
  | .nil => rfl
  | .cons k n s q r => by
    have h1 := F.sz_enc q
    have h2 := F.sz_enc r
    have h3 : s.data.toList.length = s.size := by rw [Array.length_toList]; rfl
    show ((UInt8.ofNat k.toNat :: (num (hdv k n s.size q.len) ++ (s.data.toList ++ F.enc q))) ++ F.enc r).length = (1 + (num (hdv k n s.size q.len)).length + s.size + F.sz q) + F.sz r
    rw [List.length_append, List.length_cons, List.length_append, List.length_append, h1, h2, h3]
    omega
theorem F.sz_wt : ∀ f : F, f.sz ≤ 211 * f.wt
  | .nil => Nat.le_refl _
  | .cons k n s q r => by
    have h1 := F.sz_wt q
    have h2 := F.sz_wt r
    have h3 := nlen_le (hdv k n s.size q.len)
    simp only [F.sz, F.wt]
    omega
theorem F.dep_fits : ∀ (f : F) (d : Int), -1 ≤ d → F.fits d f → (f.dep : Int) ≤ d + 1
  | .nil, d, h, _ => by show ((0 : Nat) : Int) ≤ d + 1; omega
  | .cons k n s q r, d, h, hf => by
    have h1 := F.dep_fits q (d - 1) (by have := hf.1.1; omega) hf.1.2.2
    have h2 := F.dep_fits r d h hf.2
    have h3 := hf.1.1
    simp only [F.dep, depv]
    split <;> omega
end Go.Proofs.Ytaahmfmelmjahaa
