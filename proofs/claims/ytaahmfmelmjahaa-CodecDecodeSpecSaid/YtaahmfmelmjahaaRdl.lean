/-
  The reader of the codec: values and lists, whatever the bytes.
-/
import Derived.Test.YtaahmfmelmjahaaCut
import Derived.Test.YtaahmfmelmjahaaRdv
import Derived.Test.YtaahmfmelmjahaaLst
namespace Go.Proofs.Ytaahmfmelmjahaa
open Go Go.RowKit
def ValA (g b d : Nat) (l : List UInt8) (w : World) (e : Ending) (w' : World) : Prop :=
  match decv d l with
  | some x => ∃ L, e = .returned (val x.k x.n x.s L) ∧ Okv x.k x.n x.s ∧ Sl (Cut (old w.heap.size) w') L x.q ∧ Rd w' g b x.r ∧ Chg g w w'
  | none => Refused g w e w'
def ValOK (d : Nat) : Prop := ∀ (g b : Nat) (l : List UInt8) (w : World), Rd w g b l → b < w.heap.size → l.length ≤ 1099511627776 → Calls Try.prog 35 #[.pointer (some ⟨g, 0, none⟩), .int .i64 d] w (ValA g b d l w)
/-- a list, behind its length -/
def dlst (d : Nat) (l : List UInt8) : Option (F × List UInt8) :=
  match d with
  | 0 => none
  | d + 1 => match dnum l with
    | none => none
    | some (u, r) => decl (decv d) u r
def LstA (g b d : Nat) (l : List UInt8) (w : World) (e : Ending) (w' : World) : Prop :=
  match dlst d l with
  | some (f, r) => ∃ L, e = .returned L ∧ Sl (Cut (old w.heap.size) w') L f ∧ Rd w' g b r ∧ Chg g w w'
  | none => Refused g w e w'
theorem lstA_no {g b d : Nat} {l : List UInt8} {w w' : World} (h : dlst d l = none) (hc : Chg g w w') : LstA g b d l w (.panicked bad) w' := by
  unfold LstA
  rw [h]
  exact ⟨rfl, hc⟩
theorem list_zero (g b : Nat) (l : List UInt8) (w : World) : Calls Try.prog 52 #[.pointer (some ⟨g, 0, none⟩), .int .i64 0] w (LstA g b 0 l w) := by
  have HX := Lib.hid (fun (c : Bool) (h : c = false) (w : World) => require_refuse h w)
  go_enter Try.func52, Try.ntmps52
  go_wp2_with (go_at_call 36; refine (HX.out _ (by first | rfl | (simp; done) | (simp; omega)) _).mono ?_; rintro e w' ⟨rfl, rfl⟩)
  exact ⟨rfl, lstA_no rfl (Chg.refl _ _)⟩
theorem Rd.keep {w w' : World} {g b : Nat} {l : List UInt8} (h : Rd w g b l) (hs : w.heap.size ≤ w'.heap.size) (hg : w'.heap[g]? = w.heap[g]?) (hb : b < w.heap.size → w'.heap[b]? = w.heap[b]?) : Rd w' g b l := by
  obtain ⟨p, hp, h1⟩ := h
  refine ⟨p, by rw [hg]; exact hp, ?_⟩
  rcases h1 with h1 | ⟨o, e, c1, c2, c3⟩
  · exact .inl h1
  · exact .inr ⟨o, e, c1, Nat.lt_of_lt_of_le c2 hs, fun j c hj => by
      rw [World.cell?_of_block (w := w) (a := ⟨b, o + j, none⟩) (hb c2)]
      exact c3 j c hj⟩
/-- the blocks before, and the list's own -/
def mine (B : Nat) (v : Value) (k : Nat) : Bool := decide (k < B ∨ v.ownBlock = some k)
structure DI (g b d u : Nat) (r0 : List UInt8) (w wr : World) (v : Value) (j : Nat) (pre : F) (xs : List Value) (l' : List UInt8) : Prop where
  eq : decl (decv d) u r0 = match decl (decv d) (u - j) l' with | some (f, r) => some (F.app pre f, r) | none => none
  own : OwnN 4 wr v j xs
  elts : Elts (Cut (mine w.heap.size v) wr) pre xs
  len : pre.len = j
  ge : ∀ k, v.ownBlock = some k → w.heap.size ≤ k
  rd : Rd wr g b l'
  chg : Chg g w wr
  le : l'.length + j ≤ r0.length
theorem DI.next {g b d u j : Nat} {r0 l' : List UInt8} {w wr w4 w5 : World} {v v5 L : Value} {pre : F} {xs : List Value} {x : Got} {o : Obj} (h : DI g b d u r0 w wr v j pre xs l') (hj : j < u) (hl : l'.length ≤ 9223372036854775807) (hx : decv d l' = some x)
    (hg : g < w.heap.size) (hb : b < w.heap.size) (ho : Okv x.k x.n x.s) (hL : Sl (Cut (old wr.heap.size) w4) L x.q) (hr : Rd w4 g b x.r) (hc : Chg g wr w4)
    (o5 : OwnN 4 w5 v5 (j + 1) (xs ++ [.int .i64 x.k, .int .i64 x.n, .string x.s, L])) (g5 : (w4.alloc o).grownBy w5 v.ownBlock) (n5 : v5.ownBlock = v.ownBlock ∨ ∃ k, v5.ownBlock = some k ∧ (w4.alloc o).heap.size ≤ k) :
    DI g b d u r0 w w5 v5 (j + 1) (F.app pre (.cons x.k x.n x.s x.q .nil)) (xs ++ [.int .i64 x.k, .int .i64 x.n, .string x.s, L]) x.r := by
  have hs1 := h.chg.size
  have hs2 := hc.size
  have hs3 := g5.size
  rw [World.size_alloc] at hs3
  have hv : ∀ k, v.ownBlock = some k → k < wr.heap.size := fun k hk => h.own.lt hk
  have keep : ∀ k, k < w4.heap.size → v.ownBlock ≠ some k → w5.heap[k]? = w4.heap[k]? := fun k hk hne => by
    rw [g5.block k (by rw [World.size_alloc]; omega) (fun e => hne e.symm), heap_alloc_old _ _ hk]
  have fresh : ∀ k, k < w4.heap.size → v.ownBlock ≠ some k → v5.ownBlock ≠ some k := fun k hk hne e => by
    rcases n5 with e1 | ⟨k', e1, e2⟩
    · exact hne (by rw [← e1]; exact e)
    · rw [e1] at e
      simp only [Option.some.injEq] at e
      rw [World.size_alloc] at e2
      omega
  have hlen : x.r.length + 1 ≤ l'.length := by
    have := congrArg List.length (decv_only d l' x hl hx).enc
    simp only [enc1, List.length_append, List.length_cons] at this
    omega
  refine ⟨decl_next hj h.eq hx, o5, Elts.snoc ho ?_ (h.elts.cut ?_ ?_), by rw [F.app_len, h.len]; rfl, fun k hk => ?_, hr.keep (by omega) (keep g (by omega) fun e => ?_) (fun h1 => keep b h1 fun e => ?_), ?_, by have := h.le; omega⟩
  · refine cut_mono (by omega) (fun k hk hz => ?_) hL
    simp only [old, decide_eq_false_iff_not] at hz
    have hne : v.ownBlock ≠ some k := fun e => by have := hv k e; omega
    refine ⟨?_, keep k hk hne⟩
    simp only [mine, decide_eq_false_iff_not, not_or]
    exact ⟨by omega, fresh k hk hne⟩
  · omega
  · intro k hk hz
    simp only [mine, decide_eq_false_iff_not, not_or] at hz ⊢
    refine ⟨⟨hz.1, fresh k (by omega) hz.2⟩, ?_⟩
    rw [keep k (by omega) hz.2]
    exact hc.block k hk (by omega)
  · rcases n5 with e1 | ⟨k', e1, e2⟩
    · exact h.ge k (by rw [← e1]; exact hk)
    · rw [e1] at hk
      simp only [Option.some.injEq] at hk
      rw [World.size_alloc] at e2
      omega
  · have := h.ge g e; omega
  · have := h.ge b e; omega
  · have hc1 := h.chg.trans hc
    exact ⟨g5.os.trans hc1.os, g5.tape.trans hc1.tape, g5.output.trans hc1.output, by omega, fun k hk hkg => by
      rw [keep k (by omega) (fun e => by have := h.ge k e; omega)]
      exact hc1.block k hk hkg⟩
theorem DI.done {g b d u : Nat} {r0 l' : List UInt8} {w wr : World} {v : Value} {pre : F} {xs : List Value} (h : DI g b d u r0 w wr v u pre xs l') : decl (decv d) u r0 = some (pre, l') ∧ Sl (Cut (old w.heap.size) wr) v pre := by
  refine ⟨?_, ?_⟩
  · rw [h.eq, Nat.sub_self]
    simp only [decl, F.app_nil]
  · refine Elts.sl (h.own.keep (by rw [cut_size]; exact Nat.le_refl _) fun k hk => cut_in wr ?_) (h.elts.cut (Nat.le_refl _) fun k _ hz => ⟨?_, rfl⟩) h.len
    · have := h.ge k hk
      simp only [old, decide_eq_false_iff_not]
      omega
    · simp only [mine, old, decide_eq_false_iff_not, not_or] at hz ⊢
      exact hz.1
theorem src_val {w : World} {g : Nat} {k n : Int} {s : ByteArray} {p : Option Addr} {m c : Nat} (h : w.heap[g]? = some (.cells #[.int .i64 k, .int .i64 n, .string s, .slice p m c] 24)) : Src Try.prog 4 22 (.slice (some ⟨g, 0, none⟩) 1 1) 1 [.int .i64 k, .int .i64 n, .string s, .slice p m c] w :=
  Src.ofSlice w Try.underlying22 ⟨g, 0, none⟩ 1 1 _ rfl (fun j u hj => by
    rw [Addr.add_lit, Nat.zero_add]
    simp only [World.cell?, h]
    simpa using hj) (fun u hu => by
    simp only [List.mem_cons, List.not_mem_nil, or_false] at hu
    rcases hu with rfl | rfl | rfl | rfl <;> rfl)
end Go.Proofs.Ytaahmfmelmjahaa
