/-
  A range over a function that hands out a list known beforehand: each round is told which element it has.
-/
import Derived.RangeFuncNested
import Derived.RangeFuncBound
import Derived.RangeFuncCalls
import Derived.RangeFuncLeaves
import Derived.RangeFuncFrom
import Derived.Shelf.Abstract
import Derived.Shelf.RegionOpen
import Derived.WalkKit
import Derived.OwnWalkIn
import Derived.TacticsInMore
import Derived.LoopNIn
import Derived.LoopIn
namespace Go.Proofs
open Go Go.RowKit
section
variable {F : Fence} {n : Nat} {P : Program} {α : Type}
/-- the iterator g hands out the elements of L one by one, as long as B holds between the rounds -/
def SeqL (F : Fence) (n : Nat) (P : Program) (g : Nat) (lb : Array Value) (encs : α → Array Value) (L : List α) (B : World → Prop) : Prop :=
  ∀ (l : Nat) (J : Nat → World → Prop) (Jx : World → Prop) (W : World), AbidesFrom W.heap.size J → (∀ k V, J k V → B V ∧ W.heap.size ≤ V.heap.size) →
    (∀ (k : Nat) (x : α) (V : World), L[k]? = some x → J k V → YieldAt F (n - 1) P l (encs x) V fun e V' => (e = .returned (.bool true) ∧ J (k + 1) V') ∨ (e = .returned (.bool false) ∧ Jx V')) →
    J 0 W → CallsIn F n P g (#[.func (.yield l) #[] #[]] ++ lb) W fun e V => (∃ v, e = .returned v) ∧ (J L.length V ∨ Jx V)
/-- how a round ends -/
def RoundEnd (B : Nat) (I : Nat → World → Prop) (Ix : Code → World → Prop) (k : Nat) (W : World) : Exit → Act → World → Prop
  | .normal, _, V => KeepsFrom B W V ∧ I k V
  | .ret, _, V => KeepsFrom B W V ∧ Ix .ret V
  | .exit id, _, V => KeepsFrom B W V ∧ Ix (.exit id) V
  | .goto t, _, V => KeepsFrom B W V ∧ Ix (.goto t) V
  | .panic _, _, _ => False
  | .outgrown, _, _ => False
/-- the two blocks of a loop's book-keeping -/
structure Book (m : Nat) (r : Loop) (V : World) : Prop where
  loop : V.heap[m + 1]? = some (.loop r)
  defers : V.heap[m]? = some (.deferred (some []))
theorem Book.lt {m : Nat} {r : Loop} {V : World} (h : Book m r V) : m + 1 < V.heap.size := (Array.getElem?_eq_some_iff.1 h.loop).1
theorem Book.keeps {m : Nat} {r : Loop} {V V' : World} (h : Book m r V) (hk : KeepsFrom m V V') : Book m r V' := ⟨hk.same _ _ (Nat.le_succ _) h.loop rfl, hk.same _ _ (Nat.le_refl _) h.defers rfl⟩
theorem Book.grown {m : Nat} {r : Loop} {V V' : World} {row : Option Nat} (h : Book m r V) (hg : V.grownBy V' row) (hr : ∀ j, row = some j → ∃ o : Obj, V.heap[j]? = some o ∧ o.isWalk = true) : Book m r V' :=
  ⟨(grownBy_keeps hg hr h.loop rfl).trans h.loop, (grownBy_keeps hg hr h.defers rfl).trans h.defers⟩
theorem Book.put {m : Nat} {r r' : Loop} {V : World} (h : Book m r V) : Book m r' (V.putObj (m + 1) (.loop r')) := ⟨World.putObj_heap_same h.lt, (World.putObj_heap_other (by omega)).trans h.defers⟩
theorem wpIn_range {g : Operand} {ps : Array Tmp} {assign body : Code} {Q : Exit → Act → World → Prop} {a : Act} {w : World} (hro : F.round = none) (h1 : 1 ≤ n) {gf : Nat} {lb : Array Value} (hg : a.eval g = .func (.func gf) #[] lb) (hF : F.fn gf)
    (eg : ∀ args w, (callFunc gf args).run P w = .ok (.enter gf args) w) {encs : α → Array Value} {L : List α} {B : World → Prop} (hseq : SeqL F (n - 1) P gf lb encs L B) (hps : ∀ x, (encs x).size = ps.size)
    (I : Nat → World → Prop) (Ix : Code → World → Prop) (hI : OwnFrom w.heap.size I) (hIx : OwnFrom w.heap.size Ix) (hIB : ∀ k V, I k V → B V) (h0 : I 0 w) (Ax : α → Act → World → Prop) (hAx : ∀ x a', OwnFrom w.heap.size (fun (_ : Unit) V => Ax x a' V))
    (hassign : ∀ (l k : Nat) (x : α) (V : World) (K : Act → World → Prop), L[k]? = some x → w.heap.size + 2 ≤ V.heap.size → I k V → (∀ a' V', KeepsFrom w.heap.size V V' → I k V' → Ax x a' V' → K a' V') →
      assign.wpIn (F.inRound l) (n - 1 - 1) P (Exit.then K (fun _ _ _ => False)) { tmps := (ps.zip (encs x)).foldl (fun t (p, v) => t.setIfInBounds p v) a.tmps, defers := [] } V)
    (hbody : ∀ (l k : Nat) (x : α) (a' : Act) (V : World), w.heap.size + 2 ≤ V.heap.size → L[k]? = some x → I k V → Ax x a' V → body.wpIn (F.inRound l) (n - 1 - 1) P (RoundEnd w.heap.size I Ix (k + 1) V) a' V)
    (hdone : ∀ (D : Nat) (V : World), w.heap.size ≤ D → I L.length V → V.heap[D]? = some (.deferred (some [])) → Q .normal { a with defers := { target := .collected D, args := #[] } :: a.defers } V)
    (hstop : ∀ (D : Nat) (c : Code) (V : World), w.heap.size ≤ D → Ix c V → V.heap[D]? = some (.deferred (some [])) → c.wpIn F n P Q { a with defers := { target := .collected D, args := #[] } :: a.defers } V) :
    (Code.rangeFunc g ps assign body).wpIn F n P Q a w := by
  refine wpIn_rangeFunc fun fn hfn => ?_
  rw [hro]
  let rec' : LoopState → Option Code → Loop := fun st pe => { state := st, pending := pe, fn, tmps := a.tmps, params := ps, assign, body, defers := w.heap.size }
  have hB0 : Book w.heap.size (rec' .ready none) ((w.alloc (.deferred (some []))).alloc (.loop (rec' .ready none))) := by
    have e1 := World.alloc_heap_new (w.alloc (.deferred (some []))) (.loop (rec' .ready none))
    rw [World.size_alloc] at e1
    exact ⟨e1, (Below.heap_alloc _ _ _ (by simp)).trans (World.alloc_heap_new w _)⟩
  have hI0 : I 0 ((w.alloc (.deferred (some []))).alloc (.loop (rec' .ready none))) := hI.alloc _ (hI.alloc _ h0)
  have hz : ((w.alloc (.deferred (some []))).alloc (.loop (rec' .ready none))).heap.size = w.heap.size + 2 := by simp
  have hstart : (Instr.enterLoop fn a.tmps ps assign body none).run P w = .ok (w.heap.size + 1, [{ target := .collected w.heap.size, args := #[] }]) ((w.alloc (.deferred (some []))).alloc (.loop (rec' .ready none))) := run_enterLoop_outer _ _ _ _ _
  generalize ((w.alloc (.deferred (some []))).alloc (.loop (rec' .ready none))) = W1 at *
  refine ⟨_, _, W1, { target := .fn (.func gf) lb, args := #[.func (.yield (w.heap.size + 1)) #[] #[]] }, W1, gf, #[.func (.yield (w.heap.size + 1)) #[] #[]] ++ lb, W1, hstart, ?_, ?_, ?_, fun _ => h1, ?_⟩
  · simp only [resolve, hg]
    simp [go_sem]
  · rintro f' hf'
    simp [Target.leads] at hf'
    subst hf'
    exact hF
  · simp [invoke, go_sem, eg]
  have hcall := hseq (w.heap.size + 1) (fun k V => (I k V ∧ Book w.heap.size (rec' .ready none) V) ∧ W1.heap.size ≤ V.heap.size) (fun V => ∃ c, Ix c V ∧ Book w.heap.size (rec' .done (some c)) V) W1
    (fun k X Y row hs hgr hr => ⟨⟨hI k X Y row hs.1.1 hgr (fun r e => by
      obtain ⟨h2, o, ho, hw⟩ := hr r e
      exact ⟨by omega, o, ho, Obj.not_cells_of_walk hw⟩), hs.1.2.grown hgr fun r e => (hr r e).2⟩, Nat.le_trans hs.2 hgr.size⟩)
    (fun k V hs => ⟨hIB k V hs.1.1, hs.2⟩) ?_ ⟨⟨hI0, hB0⟩, Nat.le_refl _⟩
  · refine hcall.mono ?_
    rintro e V ⟨⟨v, rfl⟩, ⟨⟨hi, hb⟩, _⟩ | ⟨c, hi, hb⟩⟩
    · exact ⟨none, _, run_endLoop (P := P) hb.loop (by simp [rec']), hdone _ _ (Nat.le_refl _) (hI.putObj _ hi (by omega) hb.loop rfl) ((World.putObj_heap_other (by omega)).trans hb.defers)⟩
    · exact ⟨some c, _, run_endLoop (P := P) hb.loop (by simp [rec']), hstop _ c _ (Nat.le_refl _) (hIx.putObj _ hi (by omega) hb.loop rfl) ((World.putObj_heap_other (by omega)).trans hb.defers)⟩
  · rintro k x V hx ⟨⟨hi, hb⟩, hzV⟩
    refine ⟨fn, _, assign, body, run_yield (P := P) (args := encs x) hb.loop (hps x), roundIn_of_wpIn hfn (hassign _ k x V _ hx (by omega) hi fun a' Va hkf hia hax => ?_)⟩
    have hba := hb.keeps hkf
    have hzA : w.heap.size + 2 ≤ Va.heap.size := hba.lt
    refine ⟨_, run_beginRound hba.loop (by simp [rec']), ?_⟩
    have hb2 : Book w.heap.size { rec' .ready none with state := .busy } (Va.putObj (w.heap.size + 1) (.loop { rec' .ready none with state := .busy })) := hba.put
    refine wpIn_mono (hbody _ k x a' _ hb2.lt hx (hI.putObj _ hia (by omega) hba.loop rfl) ((hAx x a').putObj (s := ()) _ hax (by omega) hba.loop rfl)) ?_
    have close : ∀ (jump : Option Code) (V3 : World), KeepsFrom w.heap.size (Va.putObj (w.heap.size + 1) (.loop { rec' .ready none with state := .busy })) V3 →
        (Instr.endRound (w.heap.size + 1) jump).run P V3 = .ok (.bool jump.isNone) (V3.putObj (w.heap.size + 1) (.loop (rec' (if jump.isNone then .ready else .done) jump))) ∧ Book w.heap.size (rec' (if jump.isNone then .ready else .done) jump) (V3.putObj (w.heap.size + 1) (.loop (rec' (if jump.isNone then .ready else .done) jump))) ∧
        V3.heap[w.heap.size + 1]? = some (.loop { rec' .ready none with state := .busy }) := fun jump V3 hk3 => by
      have hb3 := hb2.keeps hk3
      exact ⟨run_endRound (P := P) jump hb3.loop, hb3.put, hb3.loop⟩
    have hz3 : ∀ V3, KeepsFrom w.heap.size (Va.putObj (w.heap.size + 1) (.loop { rec' .ready none with state := .busy })) V3 → W1.heap.size ≤ V3.heap.size := fun V3 hk3 => by
      have := hb2.lt; have := hk3.size; omega
    rintro e a3 V3 hp
    cases e with
    | normal =>
      obtain ⟨hr, hb3, hl3⟩ := close none V3 hp.1
      exact ⟨_, _, hr, .inl ⟨rfl, ⟨hI.putObj _ hp.2 (by omega) hl3 rfl, hb3⟩, by have := hb3.lt; omega⟩⟩
    | ret =>
      obtain ⟨hr, hb3, hl3⟩ := close (some .ret) V3 hp.1
      exact ⟨_, _, hr, .inr ⟨rfl, .ret, hIx.putObj _ hp.2 (by omega) hl3 rfl, hb3⟩⟩
    | exit id =>
      obtain ⟨hr, hb3, hl3⟩ := close (some (.exit id)) V3 hp.1
      exact ⟨_, _, hr, .inr ⟨rfl, .exit id, hIx.putObj _ hp.2 (by omega) hl3 rfl, hb3⟩⟩
    | goto t =>
      obtain ⟨hr, hb3, hl3⟩ := close (some (.goto t)) V3 hp.1
      exact ⟨_, _, hr, .inr ⟨rfl, .goto t, hIx.putObj _ hp.2 (by omega) hl3 rfl, hb3⟩⟩
    | panic ch => exact hp.elim
    | outgrown => exact hp.elim
end
end Go.Proofs
