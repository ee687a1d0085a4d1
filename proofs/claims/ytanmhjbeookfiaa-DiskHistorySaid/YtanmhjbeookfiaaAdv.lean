/-
  A canonical run in parts: each part is checked by itself, from one state that is written out to the next.
-/
import Derived.Test.YtanmhjbeookfiaaSim3
namespace Go.Proofs.Simul
open Go Go.RowKit
/-- one step of a run, inner runs with this fuel -/
def stepC (P : Program) (m : Nat) (s : CS) : Option (List CS) :=
  match drawn? s with
  | some (ops, k) => cregion P (callBy P (go P m)) s ops k
  | none => cstep P s
/-- so many steps, with fuel n left -/
def adv (P : Program) (n : Nat) : Nat → List CS → Option (List CS)
  | 0, l => some l
  | _ + 1, [] => none
  | k + 1, s :: rest => if isFinal s then none else
    match stepC P (k + n) s with
    | none => none
    | some outs => adv P n k (outs ++ rest)
theorem go_succ {P : Program} {m : Nat} {s : CS} {rest : List CS} (hf : ¬ isFinal s = true) : go P (m + 1) (s :: rest) = (match stepC P m s with | none => none | some outs => go P m (outs ++ rest)) := by
  conv => lhs; unfold go
  rw [if_neg hf]
  rfl
theorem go_adv {P : Program} {n : Nat} : ∀ {k : Nat} {l l' : List CS}, adv P n k l = some l' → go P (k + n) l = go P n l'
  | 0, l, l', h => by cases h; rw [Nat.zero_add]
  | k + 1, [], l', h => by cases h
  | k + 1, s :: rest, l', h => by
    unfold adv at h
    split at h
    case isTrue => cases h
    rename_i hf
    split at h
    case h_1 => cases h
    rename_i outs ho
    have ih := go_adv h
    rw [show k + 1 + n = (k + n) + 1 by omega, go_succ hf, ho]
    exact ih
/-- the items from a region on -/
def toReg : Nat → Nat → List Item → List Item
  | 0, _, l => l
  | _ + 1, _, [] => []
  | f + 1, K, .code (.region id ops d) :: r => if id = K then .code (.region id ops d) :: r else toReg f K r
  | f + 1, K, .code (.seq a b) :: r => toReg f K (.code a :: .code b :: r)
  | f + 1, K, _ :: r => toReg f K r
/-- the state ahead of a region of a function that was called without arguments -/
def stateAt (P : Program) (f : FuncId) (K : Nat) (tmps : Array Value) (heap : Array Obj) : CS :=
  { fr := { enterC P f #[] .normal with tmps := tmps, todo := toReg 10000 K (enterC P f #[] .normal).todo }, cs := [], h := { bare0 with heap := heap } }
def closedFrom (P : Program) (n : Nat) (f : FuncId) (s : CS) (v : Value) : Bool :=
  match (match go P n [s] with | none => none | some fs => collect (resultOf P f) fs) with
  | some outs => outs.all fun x => veq 3 x.1 v
  | none => false
theorem closedRun_of {P : Program} {N n : Nat} {f : FuncId} {s : CS} {v : Value} (h : go P N [{ fr := enterC P f #[] .normal, cs := [], h := bare0 }] = go P n [s]) (hc : closedFrom P n f s v = true) : closedRun P N f v = true := by
  unfold closedRun callBy
  rw [h]
  exact hc
/-- the first state ahead of a region, and after how many steps -/
def findReg (P : Program) (n K : Nat) : Nat → Nat → CS → Option (Nat × CS)
  | 0, _, _ => none
  | k + 1, c, s =>
    if s.cs.isEmpty && (match s.fr.todo with | .code (.region id _ _) :: _ => id == K | _ => false) then some (c, s)
    else if isFinal s then none else
      match stepC P n s with
      | some [s'] => findReg P n K k (c + 1) s'
      | _ => none
end Go.Proofs.Simul
