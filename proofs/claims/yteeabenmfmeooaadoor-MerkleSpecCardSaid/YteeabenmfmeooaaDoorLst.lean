/-
  Digest: lists of digests.
-/
import Derived.Test.YteeabenmfmeooaaDoorTag
import Derived.Test.YteeabenmfmeooaaDoorOwnN
import Derived.Deep.MidRow
namespace Go.Proofs.YteeabenmfmeooaaDoor
open Go Go.RowKit
abbrev D32 (l : List (List UInt8)) : Prop := ∀ d ∈ l, d.length = 32
/-- the cells of a list of digests -/
def fl (l : List (List UInt8)) : List Value := (l.flatten).map byt
theorem fl_len : ∀ {l : List (List UInt8)}, D32 l → (fl l).length = l.length * 32
  | [], _ => rfl
  | d :: r, h => by
    have h1 := fl_len (l := r) (fun x hx => h x (List.mem_cons_of_mem _ hx))
    unfold fl at h1 ⊢
    rw [List.length_map] at h1 ⊢
    rw [List.flatten_cons, List.length_append, h1, h d (List.mem_cons_self ..), List.length_cons]
    omega
theorem fl_append (l r : List (List UInt8)) : fl (l ++ r) = fl l ++ fl r := by simp [fl]
theorem fl_one (d : List UInt8) : fl [d] = d.map byt := by simp [fl]
theorem D32.take {l : List (List UInt8)} (h : D32 l) (k : Nat) : D32 (l.take k) := fun d hd => h d (List.mem_of_mem_take hd)
theorem D32.drop {l : List (List UInt8)} (h : D32 l) (k : Nat) : D32 (l.drop k) := fun d hd => h d (List.mem_of_mem_drop hd)
theorem D32.append {l r : List (List UInt8)} (h : D32 l) (k : D32 r) : D32 (l ++ r) := fun d hd => by
  rcases List.mem_append.1 hd with e | e
  · exact h d e
  · exact k d e
theorem range_append {w : World} {b o : Nat} {xs ys : List Value} (h : w.rangeAt b o (xs ++ ys)) : w.rangeAt b o xs ∧ w.rangeAt b (o + xs.length) ys := by
  refine ⟨fun j v hj => h j v ?_, fun j v hj => ?_⟩
  · rw [List.getElem?_append_left (List.getElem?_eq_some_iff.1 hj).1]
    exact hj
  · have := h (xs.length + j) v (by rw [List.getElem?_append_right (by omega)]; simpa using hj)
    rwa [← Nat.add_assoc] at this
/-- the slice holds these digests -/
def LD (w : World) (v : Value) (l : List (List UInt8)) : Prop :=
  ∃ b cap p, v = .slice p l.length cap ∧ l.length ≤ cap ∧ cap ≤ maxLen ∧ (p = none → cap = 0) ∧ (l = [] ∨ ∃ o, p = some ⟨b, o, none⟩ ∧ b < w.heap.size ∧ w.rangeAt b o (fl l))
theorem LD.below {w w' : World} {v : Value} {l : List (List UInt8)} (h : LD w v l) (hb : Below w.heap.size w w') : LD w' v l := by
  obtain ⟨b, cap, p, rfl, h1, h2, h3, h4⟩ := h
  refine ⟨b, cap, p, rfl, h1, h2, h3, ?_⟩
  rcases h4 with h4 | ⟨o, e, hlt, hc⟩
  · exact .inl h4
  · exact .inr ⟨o, e, Nat.lt_of_lt_of_le hlt hb.size, fun j u hj => by rw [World.cell?_of_block (w := w) (a := ⟨b, o + j, none⟩) (hb.block b hlt)]; exact hc j u hj⟩
theorem LD.chg {w w' : World} {g b o n cap : Nat} {l : List (List UInt8)} (h : LD w (.slice (some ⟨b, o, none⟩) n cap) l) (hg : b ≠ g) (hb : Chg g w w') : LD w' (.slice (some ⟨b, o, none⟩) n cap) l := by
  obtain ⟨b', cap', p, hv, h1, h2, h3, h4⟩ := h
  cases hv
  refine ⟨b, cap, _, rfl, h1, h2, h3, ?_⟩
  rcases h4 with h4 | ⟨o', e, hlt, hc⟩
  · exact .inl h4
  · cases e
    exact .inr ⟨o, rfl, Nat.lt_of_lt_of_le hlt hb.size, fun j u hj => by rw [World.cell?_of_block (w := w) (a := ⟨b, o + j, none⟩) (hb.block b hlt hg)]; exact hc j u hj⟩
theorem LD.range_take {w : World} {b o : Nat} {l : List (List UInt8)} (hc : w.rangeAt b o (fl l)) (k : Nat) : w.rangeAt b o (fl (l.take k)) := by
  have h := List.take_append_drop k l
  rw [← h, fl_append] at hc
  exact (range_append hc).1
theorem LD.range_drop {w : World} {b o : Nat} {l : List (List UInt8)} (h32 : D32 l) (hc : w.rangeAt b o (fl l)) (k : Nat) (hk : k ≤ l.length) : w.rangeAt b (o + k * 32) (fl (l.drop k)) := by
  have h := List.take_append_drop k l
  rw [← h, fl_append] at hc
  have := (range_append hc).2
  rwa [fl_len (h32.take k), List.length_take, Nat.min_eq_left hk] at this
/-- the first k -/
theorem LD.pre {w : World} {b o n cap : Nat} {l : List (List UInt8)} (h : LD w (.slice (some ⟨b, o, none⟩) n cap) l) (k : Nat) (hk : k ≤ l.length) : LD w (.slice (some ⟨b, o, none⟩) k cap) (l.take k) := by
  obtain ⟨b', cap', p, hv, h1, h2, h3, h4⟩ := h
  cases hv
  refine ⟨b, cap, _, by rw [List.length_take, Nat.min_eq_left hk], by rw [List.length_take]; omega, h2, (fun e => by cases e), ?_⟩
  rcases h4 with rfl | ⟨o', e, hlt, hc⟩
  · exact .inl (by simp)
  · cases e
    exact .inr ⟨o, rfl, hlt, LD.range_take hc k⟩
/-- from the element k on -/
theorem LD.suf {w : World} {b o n cap : Nat} {l : List (List UInt8)} (h32 : D32 l) (h : LD w (.slice (some ⟨b, o, none⟩) n cap) l) (k : Nat) (hk : k ≤ l.length) : LD w (.slice (some ⟨b, o + k * 32, none⟩) (n - k) (cap - k)) (l.drop k) := by
  obtain ⟨b', cap', p, hv, h1, h2, h3, h4⟩ := h
  cases hv
  refine ⟨b, cap - k, _, by rw [List.length_drop], by rw [List.length_drop]; omega, by omega, (fun e => by cases e), ?_⟩
  rcases h4 with rfl | ⟨o', e, hlt, hc⟩
  · exact .inl (by simp)
  · cases e
    exact .inr ⟨o + k * 32, rfl, hlt, LD.range_drop h32 hc k hk⟩
/-- an element -/
theorem LD.at {w : World} {b o n cap : Nat} {l : List (List UInt8)} (h32 : D32 l) (h : LD w (.slice (some ⟨b, o, none⟩) n cap) l) (k : Nat) (d : List UInt8) (hk : l[k]? = some d) : w.rangeAt b (o + k * 32) (d.map byt) := by
  obtain ⟨b', cap', p, hv, h1, h2, h3, h4⟩ := h
  cases hv
  obtain ⟨hlt, e⟩ := List.getElem?_eq_some_iff.1 hk
  rcases h4 with rfl | ⟨o', e', hlt', hc⟩
  · cases hk
  · cases e'
    have h5 := LD.range_drop h32 hc k (by omega)
    rw [List.drop_eq_getElem_cons hlt, e] at h5
    unfold fl at h5
    rw [List.flatten_cons, List.map_append] at h5
    exact (range_append h5).1
theorem LD.len {w : World} {p : Option Addr} {n cap : Nat} {l : List (List UInt8)} (h : LD w (.slice p n cap) l) : l.length = n := by
  obtain ⟨b, cap', p', hv, _⟩ := h
  cases hv
  rfl
theorem size26 : (Tryd.prog.info? 30).map (·.size) = some 32 := by kernel_rfl
/-- a digest is loaded out of the middle of a block -/
theorem el_load {ops : Array Oper} {rest : List Oper} {o : Oper} {a : Act} {w : World} {Q : Exit → Act → World → Prop} (hgd : o.guard = none) (x : Operand) (ho : o.op = .load 30 x) (b off : Nat) (l : List UInt8) (hl : w.rangeAt b off (l.map byt)) (hx : l.length = 32)
    (hp : a.eval x = .pointer (some ⟨b, off, none⟩)) (h : wpList Tryd.prog ops Q rest (a.put o.dst (dgv l)) w) : wpList Tryd.prog ops Q (o :: rest) a w :=
  wpList_load_mid hgd 30 x ho b off hp (l.map byt) _ hl Tryd.underlying30 rfl (by rw [size26, List.length_map, hx]) h
end Go.Proofs.YteeabenmfmeooaaDoor
