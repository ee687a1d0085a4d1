/-
  The reader of the codec: its state in memory, and bytes that are taken.
-/
import Derived.Test.YtaahmfmelmjahaaWr
import Derived.Test.YtaahmfmelmjahaaLater
namespace Go.Proofs.Ytaahmfmelmjahaa
open Go Go.RowKit
/-- only the reader has changed -/
structure Chg (g : Nat) (w w' : World) : Prop where
  os : w'.os = w.os
  tape : w'.tape = w.tape
  output : w'.output = w.output
  size : w.heap.size ≤ w'.heap.size
  block : ∀ k, k < w.heap.size → k ≠ g → w'.heap[k]? = w.heap[k]?
theorem Chg.refl (g : Nat) (w : World) : Chg g w w := ⟨rfl, rfl, rfl, Nat.le_refl _, fun _ _ _ => rfl⟩
theorem Chg.trans {g : Nat} {w w1 w2 : World} (h : Chg g w w1) (k : Chg g w1 w2) : Chg g w w2 :=
  ⟨k.os.trans h.os, k.tape.trans h.tape, k.output.trans h.output, Nat.le_trans h.size k.size, fun j hj hb => by
    rw [k.block j (Nat.lt_of_lt_of_le hj h.size) hb]
    exact h.block j hj hb⟩
theorem Chg.alloc {g : Nat} {w w' : World} {o : Obj} (h : Chg g (w.alloc o) w') : Chg g w w' :=
  ⟨h.os, h.tape, h.output, by have := h.size; simp at this; omega, fun k hk hb => by
    rw [h.block k (by simp; omega) hb]
    exact heap_alloc_old w o hk⟩
/-- these bytes stand there, in no block that changes -/
def Bts (w : World) (g b : Nat) (p : Option Addr) (l : List UInt8) : Prop := l = [] ∨ ∃ o, p = some ⟨b, o, none⟩ ∧ b ≠ g ∧ b < w.heap.size ∧ ∀ (j : Nat) (c : UInt8), l[j]? = some c → w.cell? ⟨b, o + j, none⟩ = some (byt c)
theorem Bts.chg {w w' : World} {g b : Nat} {p : Option Addr} {l : List UInt8} (h : Bts w g b p l) (hc : Chg g w w') : Bts w' g b p l := by
  rcases h with h | ⟨o, e, h1, h2, h3⟩
  · exact .inl h
  · exact .inr ⟨o, e, h1, Nat.lt_of_lt_of_le h2 hc.size, fun j c hj => by
      rw [World.cell?_of_block (w := w) (a := ⟨b, o + j, none⟩) (hc.block b h2 h1)]
      exact h3 j c hj⟩
/-- the reader at g has these bytes before it -/
def Rd (w : World) (g b : Nat) (l : List UInt8) : Prop := ∃ p, w.heap[g]? = some (.cells #[.slice p l.length l.length] 56 (0, 0)) ∧ Bts w g b p l
/-- a block that is neither the reader's nor the bytes' is written -/
theorem Rd.set {w : World} {g b k o : Nat} {l : List UInt8} (h : Rd w g b l) (h1 : k ≠ g) (h2 : k ≠ b) (v : Value) : Rd (w.setCell ⟨k, o, none⟩ v) g b l := by
  obtain ⟨p, hp, hb⟩ := h
  refine ⟨p, by rw [Below.heap_setCell _ _ _ _ (fun e => h1 e.symm)]; exact hp, ?_⟩
  rcases hb with hb | ⟨o', e, c1, c2, c3⟩
  · exact .inl hb
  · refine .inr ⟨o', e, c1, by simpa [World.setCell] using c2, fun j c hj => ?_⟩
    rw [World.cell?_of_block (w := w) (a := ⟨b, o' + j, none⟩) (Below.heap_setCell _ _ _ _ (fun e => h2 e.symm))]
    exact c3 j c hj
theorem Chg.set {g k o : Nat} {w w' : World} (h : Chg g w w') (hk : w.heap.size ≤ k) (v : Value) : Chg g w (w'.setCell ⟨k, o, none⟩ v) :=
  ⟨h.os, h.tape, h.output, by simpa [World.setCell] using h.size, fun j hj hg => by
    rw [Below.heap_setCell _ _ _ _ (by simp only; omega)]
    exact h.block j hj hg⟩
theorem Rd.alloc {w : World} {g b : Nat} {l : List UInt8} (h : Rd w g b l) (o : Obj) : Rd (w.alloc o) g b l := by
  obtain ⟨p, hp, hb⟩ := h
  refine ⟨p, by rw [heap_alloc_old w o (Array.getElem?_eq_some_iff.1 hp).1]; exact hp, ?_⟩
  rcases hb with hb | ⟨o', e, c1, c2, c3⟩
  · exact .inl hb
  · exact .inr ⟨o', e, c1, by simp; omega, fun j c hj => by rw [World.cell?_alloc_lt _ _ _ c2]; exact c3 j c hj⟩
theorem Rd.lt {w : World} {g b : Nat} {l : List UInt8} (h : Rd w g b l) : g < w.heap.size := by
  obtain ⟨p, hp, _⟩ := h
  exact (Array.getElem?_eq_some_iff.1 hp).1
/-- bytes were taken -/
def Took (g b : Nat) (l : List UInt8) (n : Nat) (w : World) (e : Ending) (w' : World) : Prop := ∃ p, e = .returned (.slice p n n) ∧ Bts w' g b p (l.take n) ∧ Rd w' g b (l.drop n) ∧ Chg g w w'
theorem chg_set (g : Nat) (w : World) (v : Value) : Chg g w (w.setCell ⟨g, 0, none⟩ v) :=
  ⟨rfl, rfl, rfl, by simp [World.setCell], fun k _ hk => Below.heap_setCell _ _ _ _ hk⟩
theorem rd_set {w : World} {g b : Nat} {x : Value} {p : Option Addr} {l : List UInt8} (h : w.heap[g]? = some (.cells #[x] 56 (0, 0))) (hp : Bts w g b p l) : Rd (w.setCell ⟨g, 0, none⟩ (.slice p l.length l.length)) g b l :=
  ⟨p, by simp only [World.setCell, Array.getElem?_modify, if_true, h]; rfl, hp.chg (chg_set _ _ _)⟩
theorem Bts.take {w : World} {g b o : Nat} {l : List UInt8} (h1 : b ≠ g) (h2 : b < w.heap.size) (h3 : ∀ (j : Nat) (c : UInt8), l[j]? = some c → w.cell? ⟨b, o + j, none⟩ = some (byt c)) (n : Nat) : Bts w g b (some ⟨b, o, none⟩) (l.take n) :=
  .inr ⟨o, rfl, h1, h2, fun j c hj => h3 j c (by
    rw [List.getElem?_take] at hj
    split at hj
    · exact hj
    · cases hj)⟩
theorem Bts.drop {w : World} {g b o : Nat} {l : List UInt8} (h1 : b ≠ g) (h2 : b < w.heap.size) (h3 : ∀ (j : Nat) (c : UInt8), l[j]? = some c → w.cell? ⟨b, o + j, none⟩ = some (byt c)) (n : Nat) : Bts w g b (some ⟨b, o + n, none⟩) (l.drop n) :=
  .inr ⟨o + n, rfl, h1, h2, fun j c hj => by rw [Nat.add_assoc]; exact h3 (n + j) c (by rw [List.getElem?_drop] at hj; exact hj)⟩
/-- what stands behind a take -/
theorem took {w : World} {g b n m : Nat} {l : List UInt8} {x : Value} {p p' : Option Addr} (h : w.heap[g]? = some (.cells #[x] 56 (0, 0))) (hm : l.length = m + n) (h1 : Bts w g b p (l.take n)) (h2 : Bts w g b p' (l.drop n)) :
    Took g b l n w (.returned (.slice p n n)) (w.setCell ⟨g, 0, none⟩ (.slice p' m m)) := by
  have hd : (l.drop n).length = m := by rw [List.length_drop]; omega
  have hr := rd_set h h2
  rw [hd] at hr
  exact ⟨p, rfl, h1.chg (chg_set _ _ _), hr, chg_set _ _ _⟩
theorem require_ok (w : World) : Calls Try.prog 36 #[.bool true] w fun e w' => e = .returned (.tuple #[]) ∧ w' = w := by
  go_enter Try.func36, Try.ntmps36
  go_wp2_with fail
  go_end0
  exact ⟨rfl, rfl⟩
set_option maxHeartbeats 1000000 in
theorem take_ok (g b n : Nat) (l : List UInt8) (w : World) (h : Rd w g b l) (hn : n ≤ l.length) (hl : l.length ≤ 9223372036854775807) :
    Calls Try.prog 57 #[.pointer (some ⟨g, 0, none⟩), .int .i64 n] w (Took g b l n w) := by
  obtain ⟨p, hb, hp⟩ := h
  have c0 : w.cell? ⟨g, 0, none⟩ = some (.slice p l.length l.length) := by simp [World.cell?, hb]
  have f0 : w.frozen? ⟨g, 0, none⟩ = false := by simp [World.frozen?, hb]
  have HR := Lib.hid require_ok
  rcases hp with hp | ⟨o, rfl, h1, h2, h3⟩
  · have hT := fun p : Option Addr => took (b := b) (l := l) (p := p) (p' := p) (n := 0) (m := 0) hb (by rw [hp]; rfl) (.inl (by rw [hp]; rfl)) (.inl (by rw [hp]; rfl))
    have HT := Lib.hid hT
    subst hp
    obtain rfl : n = 0 := by simpa using hn
    clear hT hb
    go_enter Try.func57, Try.ntmps57
    rcases p with _ | p
    · go_wp2_with (go_at_call 36; refine (HR.out _).mono ?_; rintro e w' ⟨rfl, rfl⟩)
      go_ret
      exact HT.out _
    · go_wp2_with (go_at_call 36; refine (HR.out _).mono ?_; rintro e w' ⟨rfl, rfl⟩)
      go_ret
      exact HT.out _
  · have hT := fun (p' : Option Addr) (m : Nat) (e : l.length = m + n) (h : Bts w g b p' (l.drop n)) => took (p' := p') hb e (Bts.take h1 h2 h3 n) h
    have hD := Bts.drop h1 h2 h3 n
    have HT := Lib.hid hT
    have HD := Lib.hid hD
    clear h3 h1 hb hT hD
    generalize hN : l.length = N at *
    go_enter Try.func57, Try.ntmps57
    go_wp2_with (go_at_call 36; refine (HR.out _).mono ?_; rintro e w' ⟨rfl, rfl⟩)
    · go_ret
      refine HT.out _ 0 (by omega) (.inl ?_)
      exact List.drop_eq_nil_of_le (by omega)
    · go_ret
      exact HT.out _ (N - n) (by omega) HD.out
/-- one byte was taken -/
def Nxt (g b : Nat) (c : UInt8) (l : List UInt8) (w : World) (e : Ending) (w' : World) : Prop := e = .returned (byt c) ∧ Rd w' g b l ∧ Chg g w w'
set_option maxHeartbeats 400000 in
theorem next_ok (g b : Nat) (c : UInt8) (l : List UInt8) (w : World) (h : Rd w g b (c :: l)) (hl : l.length < 9223372036854775807) :
    Calls Try.prog 48 #[.pointer (some ⟨g, 0, none⟩)] w (Nxt g b c l w) := by
  have h1 := take_ok g b 1 (c :: l) w h (by simp) (by simp; omega)
  have H1 := Lib.hid h1
  clear h h1
  go_enter Try.func48, Try.ntmps48
  go_wp2_with (go_at_call 57; refine H1.out.mono ?_; rintro e w' ⟨p, rfl, hp, hr, hc⟩; obtain ⟨o, rfl, hcell⟩ : ∃ o, p = some ⟨b, o, none⟩ ∧ w'.cell? ⟨b, o, none⟩ = some (.int .u8 (c.toNat : Int)) := (by
    rcases hp with hp | ⟨o, e, _, _, h3⟩
    · cases hp
    · exact ⟨o, e, h3 0 c rfl⟩))
  go_ret
  exact ⟨rfl, hr, hc⟩
end Go.Proofs.Ytaahmfmelmjahaa
