/-
  Disks: slices.Concat of two lists of writes, as run.
-/
import Derived.Test.YtanmhjbeookfiaaCon
namespace Go.Proofs.Ytanmhjbeookfiaa
open Go Go.RowKit
theorem grown_bel {m : Nat} {w w1 w2 : World} {o : Option Nat} (h : Below m w w1) (hm : m ≤ w1.heap.size) (hg : w1.grownBy w2 o) (ho : ∀ k, o = some k → m ≤ k) : Below m w w2 :=
  ⟨hg.os.trans h.os, hg.tape.trans h.tape, hg.output.trans h.output, Nat.le_trans h.size hg.size, fun k hk => (hg.block k (by omega) (fun e => by have := ho k e.symm; omega)).trans (h.block k hk)⟩
/-- what the second loop has made after k rounds -/
structure Half (w wr : World) (x : Value) (n : Nat) (xs : List Value) : Prop where
  own : OwnN 2 wr x n xs
  below : Below w.heap.size w wr
  new : ∀ k, x.ownBlock = some k → w.heap.size ≤ k
theorem Half.next {w wr w' : World} {x x' : Value} {n m : Nat} {xs ys : List Value} (h : Half w wr x n xs) (ho : OwnN 2 w' x' (n + m) (xs ++ ys)) (hg : wr.grownBy w' x.ownBlock) (hn : x'.ownBlock = x.ownBlock ∨ ∃ k, x'.ownBlock = some k ∧ wr.heap.size ≤ k) : Half w w' x' (n + m) (xs ++ ys) :=
  ⟨ho, grown_bel h.below h.below.size hg h.new, fun j e => by
    rcases hn with h1 | ⟨k, h1, h2⟩
    · exact h.new j (by rw [← h1]; exact e)
    · rw [h1] at e
      cases e
      have := h.below.size
      omega⟩
theorem inf54b : ∃ i, Try.prog.info? 54 = some i ∧ i.zero = some (.agg #[.int .i64 0, .slice none 0 0]) ∧ i.size = 2 ∧ i.bytes = 32 := inf54
theorem wpList_writes {ops : Array Oper} {rest : List Oper} {o : Oper} {a : Act} {wr : World} {Q : Exit → Act → World → Prop} (hgd : o.guard = none) (s x : Operand) (ho : o.op = .call { callee := .builtin .append, args := #[s, x], argTypes := #[23, 23] }) {w : World} (v xv : Value) (n m : Nat) (xs ys : List Value)
    (hs : a.eval s = v) (hx : a.eval x = xv) (hh : Hid (Half w wr v n xs)) (hy : WL wr xv m ys) (hnm : n + m ≤ 1048576)
    (h : ∀ (v' : Value) (w' : World), Hid (Half w w' v' (n + m) (xs ++ ys)) → wpList Try.prog ops Q rest (a.put o.dst v') w') : wpList Try.prog ops Q (o :: rest) a wr := by
  obtain ⟨i, hi, hz, hsz, hby⟩ := inf54
  refine wpList_ownN hgd s x 23 23 ho 54 i _ 32 Try.underlying23 hi hz hsz (by omega) hby rfl v xv xs hs hh.out.own m ys hx hy.src (by unfold maxLen; omega) (by omega) ?_
  intro v' w' h2 h3 h4
  exact h v' w' (Lib.hid (hh.out.next h2 h3 h4))
/-- a list of writes of the call's own -/
def Conc (n : Nat) (xs : List Value) (w : World) (e : Ending) (w' : World) : Prop := ∃ v, e = .returned v ∧ OwnN 2 w' v n xs ∧ Below w.heap.size w w' ∧ (∀ k, v.ownBlock = some k → w.heap.size ≤ k)
set_option maxHeartbeats 2000000 in
theorem concat_any (G m1 m2 k1 k2 : Nat) (p1 p2 : Option Addr) (xs ys : List Value) (w : World) (hG : G < w.heap.size) (hc0 : w.cell? ⟨G, 0, none⟩ = some (.slice p1 m1 k1)) (hc1 : w.cell? ⟨G, 1, none⟩ = some (.slice p2 m2 k2))
    (h1 : WL w (.slice p1 m1 k1) m1 xs) (h2 : WL w (.slice p2 m2 k2) m2 ys) (hm : m1 + m2 ≤ 1048576) : Calls Try.prog 33 #[.slice (some ⟨G, 0, none⟩) 2 2] w (Conc (m1 + m2) (xs ++ ys) w) := by
  have H1 := Lib.hid h1
  have H2 := Lib.hid h2
  have HC0 := Lib.hid hc0
  have HC1 := Lib.hid hc1
  clear h1 h2
  go_enter Try.func33, Try.ntmps33
  go_wp2_with fail
  go_loopw [3, 11] (fun n i wr => wr = w ∧ ((i = .int .i64 0 ∧ n = .int .i64 0) ∨ (i = .int .i64 1 ∧ n = .int .i64 (m1 : Int)) ∨ (i = .int .i64 2 ∧ n = .int .i64 ((m1 + m2 : Nat) : Int)))) (fun _ i _ => 2 - (intOf i).toNat)
  case atStart => exact ⟨rfl, .inl ⟨rfl, rfl⟩⟩
  case round =>
    obtain ⟨rfl, hcase⟩ := hrel
    rcases hcase with ⟨rfl, rfl⟩ | ⟨rfl, rfl⟩ | ⟨rfl, rfl⟩
    · go_wp2_with fail
      go_roundw
      case rel => exact ⟨trivial, .inr (.inl ⟨by go_num, by go_num⟩)⟩
      case measure => simp [intOf]
    · go_wp2_with fail
      go_roundw
      case rel => exact ⟨trivial, .inr (.inr ⟨by go_num, by go_num⟩)⟩
      case measure => simp [intOf]
    · go_wp2_with (go_at_call 39; refine (grow_any (m1 + m2) hm _).mono ?_; rintro e w1 ⟨v, rfl, hO, hB, hN⟩)
      have HH : Hid (Half wr w1 v 0 []) := Lib.hid ⟨hO, hB, hN⟩
      clear hO hB hN
      go_loopw [6, 27] (fun x i w2 => (i = .int .i64 0 ∧ Hid (Half wr w2 x 0 [])) ∨ (i = .int .i64 1 ∧ Hid (Half wr w2 x m1 xs)) ∨ (i = .int .i64 2 ∧ Hid (Half wr w2 x (m1 + m2) (xs ++ ys)))) (fun _ i _ => 2 - (intOf i).toNat)
      case atStart => exact .inl ⟨rfl, HH⟩
      case round =>
        clear HH
        rcases hrel with ⟨rfl, HH⟩ | ⟨rfl, HH⟩ | ⟨rfl, HH⟩
        · have g0 := (bcells HH.out.below hG 0).trans HC0.out
          have HY := Lib.hid (H1.out.below HH.out.below)
          go_wp2_with (at_builtin; refine wpList_writes rfl (.tmp 31) (.tmp 32) rfl u6 _ 0 m1 [] xs rfl rfl HH HY.out (by omega) ?_; intro v' w' HK; rw [Nat.zero_add, List.nil_append] at HK)
          go_roundw
          case rel => exact .inr (.inl ⟨by go_num, HK⟩)
          case measure => simp [intOf]
        · have g1 := (bcells HH.out.below hG 1).trans HC1.out
          have HY := Lib.hid (H2.out.below HH.out.below)
          go_wp2_with (at_builtin; refine wpList_writes rfl (.tmp 31) (.tmp 32) rfl u6 _ m1 m2 xs ys rfl rfl HH HY.out hm ?_; intro v' w' HK)
          go_roundw
          case rel => exact .inr (.inr ⟨by go_num, HK⟩)
          case measure => simp [intOf]
        · go_wp2_with fail
          go_ret
          exact ⟨_, rfl, HH.out.own, HH.out.below, HH.out.new⟩
end Go.Proofs.Ytanmhjbeookfiaa
