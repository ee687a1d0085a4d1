/-
  Links: what the functions return, without a word on where it lies.
-/
import Derived.Test.YtpempgajejbdoaaCut
import Derived.Test.YtpempgajejbdoaaRdl
import Derived.Test.YtpempgajejbdoaaSame
namespace Go.Proofs.Ytpempgajejbdoaa
open Go Go.RowKit
variable {F : Nat → Prop}
abbrev Ev : Nat → Prop := fun _ => True
theorem NV.ev {w : World} {v : Value} {n : Nt} (h : NV F w v n) : NV Ev w v n := h.wid fun _ _ _ => trivial
theorem PKV.ev {w : World} {v : Value} {x : Pk} (h : PKV F w v x) : PKV Ev w v x := h.wid fun _ _ _ => trivial
/-- it returns links and an error, as values taken apart -/
def GN (n : Nt) (e : Int) (w : World) (en : Ending) (w' : World) : Prop := ∃ pq N cq pa M ca, en = .returned (.tuple #[nval pq N cq pa M ca, .int .i64 e]) ∧ Hid (Op Ev w' n pq N cq pa M ca) ∧ Below w.heap.size w w'
def GO (n : Nt) (w : World) (en : Ending) (w' : World) : Prop := ∃ pq N cq pa M ca, en = .returned (nval pq N cq pa M ca) ∧ Hid (Op Ev w' n pq N cq pa M ca) ∧ Below w.heap.size w w'
def GP (x : Pk) (n : Nt) (e : Int) (w : World) (en : Ending) (w' : World) : Prop := ∃ pq N cq pa M ca p L c, en = .returned (.tuple #[.agg #[.int .i64 x.1, .int .i64 x.2.1, .slice p L c], nval pq N cq pa M ca, .int .i64 e]) ∧ Hid (Op Ev w' n pq N cq pa M ca) ∧ Hid (PKV Ev w' (.agg #[.int .i64 x.1, .int .i64 x.2.1, .slice p L c]) x) ∧ Below w.heap.size w w'
theorem RetN.g {n : Nt} {e : Int} {w : World} {en : Ending} {w' : World} (h : RetN F n e w en w') : GN n e w en w' := by
  obtain ⟨v, rfl, hv, hb⟩ := h
  obtain ⟨pq, N, cq, pa, M, ca, rfl, HO, _⟩ := hv.ev.op
  exact ⟨_, _, _, _, _, _, rfl, HO, hb⟩
theorem RetO.g {n : Nt} {w : World} {en : Ending} {w' : World} (h : RetO F n w en w') : GO n w en w' := by
  obtain ⟨v, rfl, hv, hb⟩ := h
  obtain ⟨pq, N, cq, pa, M, ca, rfl, HO, _⟩ := hv.ev.op
  exact ⟨_, _, _, _, _, _, rfl, HO, hb⟩
theorem RetP.g {x : Pk} {n : Nt} {e : Int} {w : World} {en : Ending} {w' : World} (h : RetP F x n e w en w') : GP x n e w en w' := by
  obtain ⟨u, v, rfl, hu, hv, hb⟩ := h
  obtain ⟨pq, N, cq, pa, M, ca, rfl, HO, _⟩ := hv.ev.op
  obtain ⟨p, L, c, rfl, HX, _⟩ := hu.ev.open
  exact ⟨_, _, _, _, _, _, _, _, _, rfl, HO, Lib.hid HX.out.2, hb⟩
section
variable {w W : World} {n : Nt} {pq pa : Option Addr} {N cq M ca : Nat}
theorem new_g (W : World) : Calls Try.prog 16 #[] W (GO zero W) := (new_any (F := Ev) W).mono fun _ _ h => h.g
theorem rnew_g (W : World) : Calls Try.prog 17 #[] W (GO zero W) := (rnew_any (F := Ev) W).mono fun _ _ h => h.g
theorem deliver_g (HO : Op F W n pq N cq pa M ca) (a : Int) : Calls Try.prog 20 #[nval pq N cq pa M ca, .int .i64 a] W (GP (delP n a) (loseN n a) (askE n a) W) := (deliver_any _ n a W HO.nv).mono fun _ _ h => h.g
theorem rdeliver_g (HO : Op F W n pq N cq pa M ca) (a : Int) : Calls Try.prog 21 #[nval pq N cq pa M ca, .int .i64 a] W (GP (delP n a) (loseN n a) (askE n a) W) := (rdeliver_any _ n a W HO.nv).mono fun _ _ h => h.g
theorem lose_g (HO : Op F W n pq N cq pa M ca) (a : Int) : Calls Try.prog 23 #[nval pq N cq pa M ca, .int .i64 a] W (GN (loseN n a) (askE n a) W) := (lose_any _ n a W HO.nv).mono fun _ _ h => h.g
theorem rlose_g (HO : Op F W n pq N cq pa M ca) (a : Int) : Calls Try.prog 24 #[nval pq N cq pa M ca, .int .i64 a] W (GN (loseN n a) (askE n a) W) := (rlose_any _ n a W HO.nv).mono fun _ _ h => h.g
theorem repeat_g (HO : Op F W n pq N cq pa M ca) (a : Int) : Calls Try.prog 25 #[nval pq N cq pa M ca, .int .i64 a] W (GN (repN n a) (repE n a) W) := (repeat_any _ n a W HO.nv).mono fun _ _ h => h.g
theorem rrepeat_g (HO : Op F W n pq N cq pa M ca) (a : Int) : Calls Try.prog 26 #[nval pq N cq pa M ca, .int .i64 a] W (GN (repN n a) (repE n a) W) := (rrepeat_any _ n a W HO.nv).mono fun _ _ h => h.g
theorem cut_g (HO : Op F W n pq N cq pa M ca) (a b : Int) (on : Bool) : Calls Try.prog 18 #[nval pq N cq pa M ca, .int .i64 a, .int .i64 b, .bool on] W (GN (cutN n a b on) (cutE n a b) W) := (cut_any _ n a b on W HO.nv).mono fun _ _ h => h.g
theorem send_g (HO : Op F W n pq N cq pa M ca) {u : Value} {x : Pk} (hp : PKV F W u x) : Calls Try.prog 11 #[nval pq N cq pa M ca, u] W (GN (sendN n x) (sendE n x) W) := (send_any _ u n x W HO.nv hp).mono fun _ _ h => h.g
theorem rsend_g (HO : Op F W n pq N cq pa M ca) {u : Value} {x : Pk} (hp : PKV F W u x) : Calls Try.prog 12 #[nval pq N cq pa M ca, u] W (GN (sendN n x) (sendE n x) W) := (rsend_any _ u n x W HO.nv hp).mono fun _ _ h => h.g
end
theorem keep2 {w w1 : World} {B : Nat} {a b : Value} (hb : Below w.heap.size w w1) (hB : B < w.heap.size) (h : w.cell? ⟨B, 0, none⟩ = some a ∧ w.cell? ⟨B, 1, none⟩ = some b) : w1.cell? ⟨B, 0, none⟩ = some a ∧ w1.cell? ⟨B, 1, none⟩ = some b :=
  ⟨(bcells hb hB _).trans h.1, (bcells hb hB _).trans h.2⟩
theorem keep3 {w w1 : World} {B : Nat} {a b c : Value} (hb : Below w.heap.size w w1) (hB : B < w.heap.size) (h : w.cell? ⟨B, 0, none⟩ = some a ∧ w.cell? ⟨B, 1, none⟩ = some b ∧ w.cell? ⟨B, 2, none⟩ = some c) : w1.cell? ⟨B, 0, none⟩ = some a ∧ w1.cell? ⟨B, 1, none⟩ = some b ∧ w1.cell? ⟨B, 2, none⟩ = some c :=
  ⟨(bcells hb hB _).trans h.1, (bcells hb hB _).trans h.2.1, (bcells hb hB _).trans h.2.2⟩
theorem new2 (w : World) (a b : Value) (T : TypeId) : (w.alloc (.cells #[a, b] T)).cell? ⟨w.heap.size, 0, none⟩ = some a ∧ (w.alloc (.cells #[a, b] T)).cell? ⟨w.heap.size, 1, none⟩ = some b := by
  constructor <;> simp
theorem new3 (w : World) (a b c : Value) (T : TypeId) : (w.alloc (.cells #[a, b, c] T)).cell? ⟨w.heap.size, 0, none⟩ = some a ∧ (w.alloc (.cells #[a, b, c] T)).cell? ⟨w.heap.size, 1, none⟩ = some b ∧ (w.alloc (.cells #[a, b, c] T)).cell? ⟨w.heap.size, 2, none⟩ = some c := by
  refine ⟨?_, ?_, ?_⟩ <;> simp
end Go.Proofs.Ytpempgajejbdoaa
