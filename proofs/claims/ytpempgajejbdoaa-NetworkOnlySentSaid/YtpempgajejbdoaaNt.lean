/-
  Links: what they are, and where they lie in memory.
-/
import Derived.Test.YtpempgajejbdoaaProg
import Derived.Test.YtpempgajejbdoaaFrm
import Derived.Test.YtpempgajejbdoaaOwn
import Derived.Lib.Hide
namespace Go.Proofs.Ytpempgajejbdoaa
open Go Go.RowKit
def byt (c : UInt8) : Value := .int .u8 c.toNat
/-- a number of 64 bits -/
def W64 (k : Int) : Prop := -9223372036854775808 ≤ k ∧ k ≤ 9223372036854775807
/-- a packet: from, to, its data; a pair of parties -/
abbrev Pk := Int × Int × List UInt8
abbrev Lk := Int × Int
/-- links: the packets that are on their way, and the pairs that are apart -/
structure Nt where
  q : List Pk
  a : List Lk
/-- bytes from a place on -/
def Bts (F : Nat → Prop) (w : World) (b : Nat) (p : Option Addr) (l : List UInt8) : Prop := l = [] ∨ ∃ o, p = some ⟨b, o, none⟩ ∧ (b < w.heap.size ∧ F b) ∧ ∀ j c, l[j]? = some c → w.cell? ⟨b, o + j, none⟩ = some (byt c)
/-- a slice of bytes -/
def BV (F : Nat → Prop) (w : World) (v : Value) (l : List UInt8) : Prop := ∃ (b cap : Nat) (p : Option Addr), v = .slice p l.length cap ∧ l.length ≤ cap ∧ cap ≤ maxLen ∧ (p = none → cap = 0) ∧ Bts F w b p l
/-- a slice of packets -/
def QV (F : Nat → Prop) (w : World) (v : Value) (s : List Pk) : Prop := ∃ (b cap : Nat) (p : Option Addr), v = .slice p s.length cap ∧ s.length ≤ cap ∧ cap ≤ maxLen ∧ (p = none → cap = 0) ∧
  (s = [] ∨ ∃ o, p = some ⟨b, o, none⟩ ∧ (b < w.heap.size ∧ F b) ∧ ∀ (j : Nat) (x : Pk), s[j]? = some x → ∃ u, w.cell? ⟨b, o + j * 3, none⟩ = some (.int .i64 x.1) ∧ w.cell? ⟨b, o + j * 3 + 1, none⟩ = some (.int .i64 x.2.1) ∧ w.cell? ⟨b, o + j * 3 + 2, none⟩ = some u ∧ W64 x.1 ∧ W64 x.2.1 ∧ BV F w u x.2.2)
/-- a slice of pairs -/
def AV (F : Nat → Prop) (w : World) (v : Value) (s : List Lk) : Prop := ∃ (b cap : Nat) (p : Option Addr), v = .slice p s.length cap ∧ s.length ≤ cap ∧ cap ≤ maxLen ∧ (p = none → cap = 0) ∧
  (s = [] ∨ ∃ o, p = some ⟨b, o, none⟩ ∧ (b < w.heap.size ∧ F b) ∧ ∀ (j : Nat) (x : Lk), s[j]? = some x → w.cell? ⟨b, o + j * 2, none⟩ = some (.int .i64 x.1) ∧ w.cell? ⟨b, o + j * 2 + 1, none⟩ = some (.int .i64 x.2) ∧ W64 x.1 ∧ W64 x.2)
/-- links as a value -/
def NV (F : Nat → Prop) (w : World) (v : Value) (n : Nt) : Prop := ∃ qv av, v = .agg #[qv, av] ∧ QV F w qv n.q ∧ AV F w av n.a
/-- a packet as a value -/
def PKV (F : Nat → Prop) (w : World) (v : Value) (x : Pk) : Prop := ∃ u, v = .agg #[.int .i64 x.1, .int .i64 x.2.1, u] ∧ W64 x.1 ∧ W64 x.2.1 ∧ BV F w u x.2.2
variable {F : Nat → Prop}
theorem bcells {w w' : World} (hb : Below w.heap.size w w') {b : Nat} (h : b < w.heap.size) (o : Nat) : w'.cell? ⟨b, o, none⟩ = w.cell? ⟨b, o, none⟩ := hb.cell (p := ⟨b, o, none⟩) h
theorem BV.below {w w' : World} {v : Value} {l : List UInt8} (h : BV F w v l) (hb : Below w.heap.size w w') : BV F w' v l := by
  obtain ⟨b, cap, p, e, h1, h2, h3, h4⟩ := h
  refine ⟨b, cap, p, e, h1, h2, h3, ?_⟩
  rcases h4 with h4 | ⟨o, e, ⟨hlt, hF⟩, hc⟩
  · exact .inl h4
  · exact .inr ⟨o, e, ⟨Nat.lt_of_lt_of_le hlt hb.size, hF⟩, fun j c hj => (bcells hb hlt _).trans (hc j c hj)⟩
theorem QV.below {w w' : World} {v : Value} {s : List Pk} (h : QV F w v s) (hb : Below w.heap.size w w') : QV F w' v s := by
  obtain ⟨b, cap, p, e, h1, h2, h3, h4⟩ := h
  refine ⟨b, cap, p, e, h1, h2, h3, ?_⟩
  rcases h4 with h4 | ⟨o, e, ⟨hlt, hF⟩, hc⟩
  · exact .inl h4
  · refine .inr ⟨o, e, ⟨Nat.lt_of_lt_of_le hlt hb.size, hF⟩, fun j l hj => ?_⟩
    obtain ⟨u, h5, h6, h7, h8, h9, h10⟩ := hc j l hj
    exact ⟨u, (bcells hb hlt _).trans h5, (bcells hb hlt _).trans h6, (bcells hb hlt _).trans h7, h8, h9, h10.below hb⟩
theorem AV.below {w w' : World} {v : Value} {s : List Lk} (h : AV F w v s) (hb : Below w.heap.size w w') : AV F w' v s := by
  obtain ⟨b, cap, p, e, h1, h2, h3, h4⟩ := h
  refine ⟨b, cap, p, e, h1, h2, h3, ?_⟩
  rcases h4 with h4 | ⟨o, e, ⟨hlt, hF⟩, hc⟩
  · exact .inl h4
  · refine .inr ⟨o, e, ⟨Nat.lt_of_lt_of_le hlt hb.size, hF⟩, fun j l hj => ?_⟩
    obtain ⟨h5, h6, h7⟩ := hc j l hj
    exact ⟨(bcells hb hlt _).trans h5, (bcells hb hlt _).trans h6, h7⟩
theorem NV.below {w w' : World} {v : Value} {n : Nt} (h : NV F w v n) (hb : Below w.heap.size w w') : NV F w' v n := by
  obtain ⟨qv, av, e, h1, h2⟩ := h
  exact ⟨qv, av, e, h1.below hb, h2.below hb⟩
theorem PKV.below {w w' : World} {v : Value} {x : Pk} (h : PKV F w v x) (hb : Below w.heap.size w w') : PKV F w' v x := by
  obtain ⟨u, e, h1, h2, h3⟩ := h
  exact ⟨u, e, h1, h2, h3.below hb⟩
theorem BV.shape {w : World} {v : Value} {l : List UInt8} (h : BV F w v l) : ∃ p c, v = .slice p l.length c ∧ l.length ≤ c ∧ c ≤ maxLen := by
  obtain ⟨b, cap, p, e, h1, h2, _⟩ := h
  exact ⟨p, cap, e, h1, h2⟩
theorem QV.shape {w : World} {v : Value} {s : List Pk} (h : QV F w v s) : ∃ p c, v = .slice p s.length c ∧ s.length ≤ c ∧ c ≤ maxLen ∧ (p = none → c = 0) := by
  obtain ⟨b, cap, p, e, h1, h2, h3, _⟩ := h
  exact ⟨p, cap, e, h1, h2, h3⟩
theorem AV.shape {w : World} {v : Value} {s : List Lk} (h : AV F w v s) : ∃ p c, v = .slice p s.length c ∧ s.length ≤ c ∧ c ≤ maxLen ∧ (p = none → c = 0) := by
  obtain ⟨b, cap, p, e, h1, h2, h3, _⟩ := h
  exact ⟨p, cap, e, h1, h2, h3⟩
theorem nil_QV (w : World) : QV F w (.slice none 0 0) [] := ⟨0, 0, none, rfl, by simp, by simp [maxLen], fun _ => rfl, .inl rfl⟩
theorem nil_AV (w : World) : AV F w (.slice none 0 0) [] := ⟨0, 0, none, rfl, by simp, by simp [maxLen], fun _ => rfl, .inl rfl⟩
theorem nil_BV (w : World) : BV F w (.slice none 0 0) [] := ⟨0, 0, none, rfl, by simp, by simp [maxLen], fun _ => rfl, .inl rfl⟩
def zero : Nt := ⟨[], []⟩
def pk0 : Pk := (0, 0, [])
theorem zero_NV (w : World) : NV F w (.agg #[.slice none 0 0, .slice none 0 0]) zero := ⟨_, _, rfl, nil_QV w, nil_AV w⟩
theorem zero_PKV (w : World) : PKV F w (.agg #[.int .i64 0, .int .i64 0, .slice none 0 0]) pk0 := ⟨_, rfl, by unfold W64; exact ⟨by decide, by decide⟩, by unfold W64; exact ⟨by decide, by decide⟩, nil_BV w⟩
/-- the blocks of F, and new ones -/
def Nw (F : Nat → Prop) (w : World) : Nat → Prop := fun b => F b ∨ w.heap.size ≤ b
/-- it returns links and an error -/
def RetN (F : Nat → Prop) (n : Nt) (e : Int) (w : World) (en : Ending) (w' : World) : Prop := ∃ v, en = .returned (.tuple #[v, .int .i64 e]) ∧ NV (Nw F w) w' v n ∧ Below w.heap.size w w'
/-- it returns links -/
def RetO (F : Nat → Prop) (n : Nt) (w : World) (en : Ending) (w' : World) : Prop := ∃ v, en = .returned v ∧ NV (Nw F w) w' v n ∧ Below w.heap.size w w'
/-- it returns a packet, links and an error -/
def RetP (F : Nat → Prop) (x : Pk) (n : Nt) (e : Int) (w : World) (en : Ending) (w' : World) : Prop := ∃ u v, en = .returned (.tuple #[u, v, .int .i64 e]) ∧ PKV (Nw F w) w' u x ∧ NV (Nw F w) w' v n ∧ Below w.heap.size w w'
/-- links as a value, taken apart -/
structure Op (F : Nat → Prop) (w : World) (n : Nt) (pq : Option Addr) (N cq : Nat) (pa : Option Addr) (M ca : Nat) : Prop where
  nq : n.q.length = N
  na : n.a.length = M
  que : QV F w (.slice pq N cq) n.q
  apa : AV F w (.slice pa M ca) n.a
abbrev nval (pq : Option Addr) (N cq : Nat) (pa : Option Addr) (M ca : Nat) : Value := .agg #[.slice pq N cq, .slice pa M ca]
abbrev nbox (w : World) (pq : Option Addr) (N cq : Nat) (pa : Option Addr) (M ca : Nat) : World := w.alloc (.cells #[.slice pq N cq, .slice pa M ca] 25)
theorem NV.op {w : World} {v : Value} {n : Nt} (h : NV F w v n) : ∃ pq N cq pa M ca, v = nval pq N cq pa M ca ∧ Hid (Op F w n pq N cq pa M ca) ∧ N ≤ cq ∧ cq ≤ 9223372036854775807 ∧ M ≤ ca ∧ ca ≤ 9223372036854775807 := by
  obtain ⟨qv, av, rfl, hq, ha⟩ := h
  obtain ⟨pq, cq, rfl, hq1, hq2, _⟩ := hq.shape
  obtain ⟨pa, ca, rfl, ha1, ha2, _⟩ := ha.shape
  unfold maxLen at hq2 ha2
  exact ⟨pq, _, cq, pa, _, ca, rfl, Lib.hid ⟨rfl, rfl, hq, ha⟩, hq1, by omega, ha1, by omega⟩
theorem Op.nv {w : World} {n : Nt} {pq pa : Option Addr} {N cq M ca : Nat} (h : Op F w n pq N cq pa M ca) : NV F w (nval pq N cq pa M ca) n := ⟨_, _, rfl, h.que, h.apa⟩
theorem Op.below {w w' : World} {n : Nt} {pq pa : Option Addr} {N cq M ca : Nat} (h : Op F w n pq N cq pa M ca) (hb : Below w.heap.size w w') : Op F w' n pq N cq pa M ca := ⟨h.nq, h.na, h.que.below hb, h.apa.below hb⟩
/-- a packet of a list -/
theorem QV.pkAt {w : World} {s : List Pk} {pq : Option Addr} {N cq : Nat} (h : QV F w (.slice pq N cq) s) (j : Nat) (hj : j < s.length) :
    ∃ b o f t pu L cu l, pq = some ⟨b, o, none⟩ ∧ b < w.heap.size ∧ w.cell? ⟨b, o + j * 3, none⟩ = some (.int .i64 f) ∧ w.cell? ⟨b, o + j * 3 + 1, none⟩ = some (.int .i64 t) ∧ w.cell? ⟨b, o + j * 3 + 2, none⟩ = some (.slice pu L cu) ∧
      Hid (s[j]? = some (f, t, l) ∧ l.length = L ∧ BV F w (.slice pu L cu) l) ∧ L ≤ cu ∧ cu ≤ maxLen ∧ Hid (W64 f ∧ W64 t) := by
  obtain ⟨b', cap', p, hv, h1, h2, h3, h4⟩ := h
  cases hv
  rcases h4 with rfl | ⟨o, e, ⟨hlt, _⟩, hc⟩
  · simp at hj
  · subst e
    obtain ⟨u, h5, h6, h7, h8, h9, h10⟩ := hc j _ (List.getElem?_eq_getElem hj)
    obtain ⟨pu, cu, rfl, h11, h12⟩ := h10.shape
    exact ⟨b', o, _, _, pu, _, cu, _, rfl, hlt, h5, h6, h7, Lib.hid ⟨List.getElem?_eq_getElem hj, rfl, h10⟩, h11, h12, Lib.hid ⟨h8, h9⟩⟩
/-- a pair of a list -/
theorem AV.lkAt {w : World} {s : List Lk} {pa : Option Addr} {M ca : Nat} (h : AV F w (.slice pa M ca) s) (j : Nat) (hj : j < s.length) :
    ∃ b o x y, pa = some ⟨b, o, none⟩ ∧ b < w.heap.size ∧ w.cell? ⟨b, o + j * 2, none⟩ = some (.int .i64 x) ∧ w.cell? ⟨b, o + j * 2 + 1, none⟩ = some (.int .i64 y) ∧ Hid (s[j]? = some (x, y)) ∧ Hid (W64 x ∧ W64 y) := by
  obtain ⟨b', cap', p, hv, h1, h2, h3, h4⟩ := h
  cases hv
  rcases h4 with rfl | ⟨o, e, ⟨hlt, _⟩, hc⟩
  · simp at hj
  · subst e
    obtain ⟨h5, h6, h7, h8⟩ := hc j _ (List.getElem?_eq_getElem hj)
    exact ⟨b', o, _, _, rfl, hlt, h5, h6, Lib.hid (List.getElem?_eq_getElem hj), Lib.hid ⟨h7, h8⟩⟩
/-- the cells of boxed links, later -/
theorem boxed {w wr : World} {a b : Value} {T : TypeId} {m : Nat} (hm : w.heap.size < m) (hb : Below m (w.alloc (.cells #[a, b] T)) wr) :
    wr.cell? ⟨w.heap.size, 0, none⟩ = some a ∧ wr.cell? ⟨w.heap.size, 1, none⟩ = some b := by
  refine ⟨?_, ?_⟩ <;> (rw [hb.cell (by simpa using hm)]; go_simp)
theorem two_below (w : World) (o o' : Obj) : Below w.heap.size w ((w.alloc o).alloc o') := ((Below.refl _ _).alloc (Nat.le_refl _) _).alloc (by simp) _
theorem three_below (w : World) (o o' o'' : Obj) : Below w.heap.size w (((w.alloc o).alloc o').alloc o'') := (two_below w o o').alloc (by simp; omega) _
theorem two_later {w w1 : World} {o o' : Obj} (hb : Below ((w.alloc o).alloc o').heap.size ((w.alloc o).alloc o') w1) : Below w.heap.size w w1 := (two_below w o o').trans (hb.mono (by simp; omega))
theorem one_later {w w1 : World} {o : Obj} (hb : Below (w.alloc o).heap.size (w.alloc o) w1) : Below w.heap.size w w1 := (one_new w o).trans (hb.mono (by simp))
theorem three_later {w w1 : World} {o o' o'' : Obj} (hb : Below (((w.alloc o).alloc o').alloc o'').heap.size (((w.alloc o).alloc o').alloc o'') w1) : Below w.heap.size w w1 := (three_below w o o' o'').trans (hb.mono (by simp; omega))
theorem row_set {w : World} {g k o : Nat} {x : Option Obj} {v : Value} (r : w.heap[g]? = x) (hk : k ≠ g) : (w.setCell ⟨k, o, none⟩ v).heap[g]? = x := by
  rw [Below.heap_setCell _ _ _ _ (fun h => hk h.symm)]
  exact r
theorem info25 : (Try.prog.info? 25).map (·.size) = some 2 := by kernel_rfl
theorem info28 : (Try.prog.info? 28).map (·.size) = some 3 := by kernel_rfl
theorem info55 : (Try.prog.info? 55).map (·.size) = some 2 := by kernel_rfl
/-- nothing of F has changed -/
structure KeepF (F : Nat → Prop) (w w' : World) : Prop where
  size : w.heap.size ≤ w'.heap.size
  block : ∀ b, b < w.heap.size → F b → w'.heap[b]? = w.heap[b]?
theorem KeepF.cell {w w' : World} (h : KeepF F w w') {b : Nat} (hb : b < w.heap.size) (hF : F b) (o : Nat) : w'.cell? ⟨b, o, none⟩ = w.cell? ⟨b, o, none⟩ := World.cell?_of_block (w := w) (a := ⟨b, o, none⟩) (h.block b hb hF)
theorem KeepF.trans {w w1 w2 : World} (h : KeepF F w w1) (k : KeepF F w1 w2) : KeepF F w w2 :=
  ⟨Nat.le_trans h.size k.size, fun b hb hF => (k.block b (Nat.lt_of_lt_of_le hb h.size) hF).trans (h.block b hb hF)⟩
theorem KeepF.of_below {w w' : World} (h : Below w.heap.size w w') : KeepF F w w' := ⟨h.size, fun b hb _ => h.block b hb⟩
theorem KeepF.of_chg {g : Nat} {w w' : World} (h : Chg g w w') (hg : ¬ F g) : KeepF F w w' := ⟨h.size, fun b hb hF => h.block b hb (fun e => hg (e ▸ hF))⟩
theorem KeepF.set {k o : Nat} (w : World) (hk : ¬ F k) (v : Value) : KeepF F w (w.setCell ⟨k, o, none⟩ v) :=
  ⟨by simp [World.setCell], fun b _ hF => by rw [Below.heap_setCell _ _ _ _ (by simp only; exact fun e => hk (e ▸ hF))]⟩
theorem BV.keep {w w' : World} {v : Value} {l : List UInt8} (h : BV F w v l) (hk : KeepF F w w') : BV F w' v l := by
  obtain ⟨b, cap, p, e, h1, h2, h3, h4⟩ := h
  refine ⟨b, cap, p, e, h1, h2, h3, ?_⟩
  rcases h4 with h4 | ⟨o, e, ⟨hlt, hF⟩, hc⟩
  · exact .inl h4
  · exact .inr ⟨o, e, ⟨Nat.lt_of_lt_of_le hlt hk.size, hF⟩, fun j c hj => (hk.cell hlt hF _).trans (hc j c hj)⟩
theorem QV.keep {w w' : World} {v : Value} {s : List Pk} (h : QV F w v s) (hk : KeepF F w w') : QV F w' v s := by
  obtain ⟨b, cap, p, e, h1, h2, h3, h4⟩ := h
  refine ⟨b, cap, p, e, h1, h2, h3, ?_⟩
  rcases h4 with h4 | ⟨o, e, ⟨hlt, hF⟩, hc⟩
  · exact .inl h4
  · refine .inr ⟨o, e, ⟨Nat.lt_of_lt_of_le hlt hk.size, hF⟩, fun j l hj => ?_⟩
    obtain ⟨u, h5, h6, h7, h8, h9, h10⟩ := hc j l hj
    exact ⟨u, (hk.cell hlt hF _).trans h5, (hk.cell hlt hF _).trans h6, (hk.cell hlt hF _).trans h7, h8, h9, h10.keep hk⟩
theorem AV.keep {w w' : World} {v : Value} {s : List Lk} (h : AV F w v s) (hk : KeepF F w w') : AV F w' v s := by
  obtain ⟨b, cap, p, e, h1, h2, h3, h4⟩ := h
  refine ⟨b, cap, p, e, h1, h2, h3, ?_⟩
  rcases h4 with h4 | ⟨o, e, ⟨hlt, hF⟩, hc⟩
  · exact .inl h4
  · refine .inr ⟨o, e, ⟨Nat.lt_of_lt_of_le hlt hk.size, hF⟩, fun j l hj => ?_⟩
    obtain ⟨h5, h6, h7⟩ := hc j l hj
    exact ⟨(hk.cell hlt hF _).trans h5, (hk.cell hlt hF _).trans h6, h7⟩
theorem NV.keep {w w' : World} {v : Value} {n : Nt} (h : NV F w v n) (hk : KeepF F w w') : NV F w' v n := by
  obtain ⟨qv, av, e, h1, h2⟩ := h
  exact ⟨qv, av, e, h1.keep hk, h2.keep hk⟩
theorem PKV.keep {w w' : World} {v : Value} {x : Pk} (h : PKV F w v x) (hk : KeepF F w w') : PKV F w' v x := by
  obtain ⟨u, e, h1, h2, h3⟩ := h
  exact ⟨u, e, h1, h2, h3.keep hk⟩
theorem BV.wid {G : Nat → Prop} {w : World} {v : Value} {l : List UInt8} (h : BV F w v l) (hk : ∀ b, b < w.heap.size → F b → G b) : BV G w v l := by
  obtain ⟨b, cap, p, e, h1, h2, h3, h4⟩ := h
  refine ⟨b, cap, p, e, h1, h2, h3, ?_⟩
  rcases h4 with h4 | ⟨o, e, ⟨hlt, hF⟩, hc⟩
  · exact .inl h4
  · exact .inr ⟨o, e, ⟨hlt, hk b hlt hF⟩, hc⟩
theorem QV.wid {G : Nat → Prop} {w : World} {v : Value} {s : List Pk} (h : QV F w v s) (hk : ∀ b, b < w.heap.size → F b → G b) : QV G w v s := by
  obtain ⟨b, cap, p, e, h1, h2, h3, h4⟩ := h
  refine ⟨b, cap, p, e, h1, h2, h3, ?_⟩
  rcases h4 with h4 | ⟨o, e, ⟨hlt, hF⟩, hc⟩
  · exact .inl h4
  · refine .inr ⟨o, e, ⟨hlt, hk b hlt hF⟩, fun j l hj => ?_⟩
    obtain ⟨u, h5, h6, h7, h8, h9, h10⟩ := hc j l hj
    exact ⟨u, h5, h6, h7, h8, h9, h10.wid hk⟩
theorem AV.wid {G : Nat → Prop} {w : World} {v : Value} {s : List Lk} (h : AV F w v s) (hk : ∀ b, b < w.heap.size → F b → G b) : AV G w v s := by
  obtain ⟨b, cap, p, e, h1, h2, h3, h4⟩ := h
  refine ⟨b, cap, p, e, h1, h2, h3, ?_⟩
  rcases h4 with h4 | ⟨o, e, ⟨hlt, hF⟩, hc⟩
  · exact .inl h4
  · exact .inr ⟨o, e, ⟨hlt, hk b hlt hF⟩, hc⟩
theorem NV.wid {G : Nat → Prop} {w : World} {v : Value} {n : Nt} (h : NV F w v n) (hk : ∀ b, b < w.heap.size → F b → G b) : NV G w v n := by
  obtain ⟨qv, av, e, h1, h2⟩ := h
  exact ⟨qv, av, e, h1.wid hk, h2.wid hk⟩
theorem PKV.wid {G : Nat → Prop} {w : World} {v : Value} {x : Pk} (h : PKV F w v x) (hk : ∀ b, b < w.heap.size → F b → G b) : PKV G w v x := by
  obtain ⟨u, e, h1, h2, h3⟩ := h
  exact ⟨u, e, h1, h2, h3.wid hk⟩
/-- what lies in w, lies below its size -/
abbrev Bl (w : World) : Nat → Prop := fun b => b < w.heap.size
theorem NV.bl {w : World} {v : Value} {n : Nt} (h : NV F w v n) : NV (Bl w) w v n := h.wid fun _ hb _ => hb
theorem PKV.bl {w : World} {v : Value} {x : Pk} (h : PKV F w v x) : PKV (Bl w) w v x := h.wid fun _ hb _ => hb
/-- the blocks of F that were there -/
def Lo (F : Nat → Prop) (w : World) : Nat → Prop := fun b => F b ∧ b < w.heap.size
theorem NV.lo {w : World} {v : Value} {n : Nt} (h : NV F w v n) : NV (Lo F w) w v n := h.wid fun _ hb hF => ⟨hF, hb⟩
theorem PKV.lo {w : World} {v : Value} {x : Pk} (h : PKV F w v x) : PKV (Lo F w) w v x := h.wid fun _ hb hF => ⟨hF, hb⟩
theorem AV.lo {w : World} {v : Value} {s : List Lk} (h : AV F w v s) : AV (Lo F w) w v s := h.wid fun _ hb hF => ⟨hF, hb⟩
theorem nw_not {w W1 : World} {k : Nat} (h1 : w.heap.size ≤ k) (h2 : k < W1.heap.size) : ¬ Nw (Lo F w) W1 k := fun h => by
  rcases h with ⟨_, h⟩ | h <;> omega
theorem lo_not {w : World} {k : Nat} (h1 : w.heap.size ≤ k) : ¬ Lo F w k := fun h => by have := h.2; omega
theorem nw_wid {w W1 : World} (h : w.heap.size ≤ W1.heap.size) {m : Nat} : ∀ b, b < m → Nw (Lo F w) W1 b → Nw F w b := fun b _ hb => by
  rcases hb with ⟨h1, _⟩ | h1
  · exact .inl h1
  · exact .inr (Nat.le_trans h h1)
theorem lo_wid {w : World} {m : Nat} : ∀ b, b < m → Lo F w b → Nw F w b := fun _ _ hb => .inl hb.1
end Go.Proofs.Ytpempgajejbdoaa
