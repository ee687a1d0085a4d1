/-
  Disks: what a disk is, and where it lies in memory.
-/
import Derived.Test.YtanmhjbeookfiaaProg
import Derived.Test.YtanmhjbeookfiaaFrm
import Derived.Test.YtanmhjbeookfiaaOwn
import Derived.Lib.Hide
namespace Go.Proofs.Ytanmhjbeookfiaa
open Go Go.RowKit
def byt (c : UInt8) : Value := .int .u8 c.toNat
/-- a number of 64 bits -/
def W64 (k : Int) : Prop := -9223372036854775808 ≤ k ∧ k ≤ 9223372036854775807
/-- a disk: its sectors, its writes that are not synced, how many writes are left, and whether it has stopped -/
structure D where
  s : List (List UInt8)
  p : List (Int × List UInt8)
  left : Int
  st : Bool
/-- bytes from a place on -/
def Bts (w : World) (b : Nat) (p : Option Addr) (l : List UInt8) : Prop := l = [] ∨ ∃ o, p = some ⟨b, o, none⟩ ∧ b < w.heap.size ∧ ∀ j c, l[j]? = some c → w.cell? ⟨b, o + j, none⟩ = some (byt c)
/-- a slice of bytes -/
def BV (w : World) (v : Value) (l : List UInt8) : Prop := ∃ (b cap : Nat) (p : Option Addr), v = .slice p l.length cap ∧ l.length ≤ cap ∧ cap ≤ maxLen ∧ (p = none → cap = 0) ∧ Bts w b p l
/-- a slice of sectors -/
def SV (w : World) (v : Value) (s : List (List UInt8)) : Prop := ∃ (b cap : Nat) (p : Option Addr), v = .slice p s.length cap ∧ s.length ≤ cap ∧ cap ≤ maxLen ∧ (p = none → cap = 0) ∧
  (s = [] ∨ ∃ o, p = some ⟨b, o, none⟩ ∧ b < w.heap.size ∧ ∀ j l, s[j]? = some l → ∃ u, w.cell? ⟨b, o + j, none⟩ = some u ∧ BV w u l)
/-- a slice of writes -/
def PV (w : World) (v : Value) (s : List (Int × List UInt8)) : Prop := ∃ (b cap : Nat) (p : Option Addr), v = .slice p s.length cap ∧ s.length ≤ cap ∧ cap ≤ maxLen ∧ (p = none → cap = 0) ∧
  (s = [] ∨ ∃ o, p = some ⟨b, o, none⟩ ∧ b < w.heap.size ∧ ∀ j x, s[j]? = some x → ∃ u, w.cell? ⟨b, o + j * 2, none⟩ = some (.int .i64 x.1) ∧ w.cell? ⟨b, o + j * 2 + 1, none⟩ = some u ∧ W64 x.1 ∧ BV w u x.2)
/-- a disk as a value -/
def DV (w : World) (v : Value) (d : D) : Prop := ∃ sv pv, v = .agg #[sv, pv, .int .i64 d.left, .bool d.st] ∧ SV w sv d.s ∧ PV w pv d.p ∧ W64 d.left
theorem bcells {w w' : World} (hb : Below w.heap.size w w') {b : Nat} (h : b < w.heap.size) (o : Nat) : w'.cell? ⟨b, o, none⟩ = w.cell? ⟨b, o, none⟩ := hb.cell (p := ⟨b, o, none⟩) h
theorem BV.below {w w' : World} {v : Value} {l : List UInt8} (h : BV w v l) (hb : Below w.heap.size w w') : BV w' v l := by
  obtain ⟨b, cap, p, e, h1, h2, h3, h4⟩ := h
  refine ⟨b, cap, p, e, h1, h2, h3, ?_⟩
  rcases h4 with h4 | ⟨o, e, hlt, hc⟩
  · exact .inl h4
  · exact .inr ⟨o, e, Nat.lt_of_lt_of_le hlt hb.size, fun j c hj => (bcells hb hlt _).trans (hc j c hj)⟩
theorem SV.below {w w' : World} {v : Value} {s : List (List UInt8)} (h : SV w v s) (hb : Below w.heap.size w w') : SV w' v s := by
  obtain ⟨b, cap, p, e, h1, h2, h3, h4⟩ := h
  refine ⟨b, cap, p, e, h1, h2, h3, ?_⟩
  rcases h4 with h4 | ⟨o, e, hlt, hc⟩
  · exact .inl h4
  · refine .inr ⟨o, e, Nat.lt_of_lt_of_le hlt hb.size, fun j l hj => ?_⟩
    obtain ⟨u, h5, h6⟩ := hc j l hj
    exact ⟨u, (bcells hb hlt _).trans h5, h6.below hb⟩
theorem PV.below {w w' : World} {v : Value} {s : List (Int × List UInt8)} (h : PV w v s) (hb : Below w.heap.size w w') : PV w' v s := by
  obtain ⟨b, cap, p, e, h1, h2, h3, h4⟩ := h
  refine ⟨b, cap, p, e, h1, h2, h3, ?_⟩
  rcases h4 with h4 | ⟨o, e, hlt, hc⟩
  · exact .inl h4
  · refine .inr ⟨o, e, Nat.lt_of_lt_of_le hlt hb.size, fun j l hj => ?_⟩
    obtain ⟨u, h5, h6, h7, h8⟩ := hc j l hj
    exact ⟨u, (bcells hb hlt _).trans h5, (bcells hb hlt _).trans h6, h7, h8.below hb⟩
theorem DV.below {w w' : World} {v : Value} {d : D} (h : DV w v d) (hb : Below w.heap.size w w') : DV w' v d := by
  obtain ⟨sv, pv, e, h1, h2, h3⟩ := h
  exact ⟨sv, pv, e, h1.below hb, h2.below hb, h3⟩
theorem BV.shape {w : World} {v : Value} {l : List UInt8} (h : BV w v l) : ∃ p c, v = .slice p l.length c ∧ l.length ≤ c ∧ c ≤ maxLen := by
  obtain ⟨b, cap, p, e, h1, h2, _⟩ := h
  exact ⟨p, cap, e, h1, h2⟩
theorem SV.at {w : World} {b o n cap : Nat} {s : List (List UInt8)} (h : SV w (.slice (some ⟨b, o, none⟩) n cap) s) (j : Nat) (hj : j < s.length) : b < w.heap.size ∧ ∃ u, w.cell? ⟨b, o + j, none⟩ = some u ∧ BV w u s[j] := by
  obtain ⟨b', cap', p, hv, h1, h2, h3, h4⟩ := h
  cases hv
  rcases h4 with rfl | ⟨o', e, hlt, hc⟩
  · simp at hj
  · cases e
    exact ⟨hlt, hc j _ (List.getElem?_eq_getElem hj)⟩
theorem PV.at {w : World} {b o n cap : Nat} {s : List (Int × List UInt8)} (h : PV w (.slice (some ⟨b, o, none⟩) n cap) s) (j : Nat) (hj : j < s.length) :
    b < w.heap.size ∧ ∃ u, w.cell? ⟨b, o + j * 2, none⟩ = some (.int .i64 s[j].1) ∧ w.cell? ⟨b, o + j * 2 + 1, none⟩ = some u ∧ W64 s[j].1 ∧ BV w u s[j].2 := by
  obtain ⟨b', cap', p, hv, h1, h2, h3, h4⟩ := h
  cases hv
  rcases h4 with rfl | ⟨o', e, hlt, hc⟩
  · simp at hj
  · cases e
    exact ⟨hlt, hc j _ (List.getElem?_eq_getElem hj)⟩
/-- what a slice of sectors looks like -/
theorem SV.shape {w : World} {v : Value} {s : List (List UInt8)} (h : SV w v s) : ∃ p c, v = .slice p s.length c ∧ s.length ≤ c ∧ c ≤ maxLen ∧ (s = [] ∨ ∃ b o, p = some ⟨b, o, none⟩ ∧ b < w.heap.size) := by
  obtain ⟨b, cap, p, e, h1, h2, h3, h4⟩ := h
  refine ⟨p, cap, e, h1, h2, ?_⟩
  rcases h4 with h4 | ⟨o, e, hlt, hc⟩
  · exact .inl h4
  · exact .inr ⟨b, o, e, hlt⟩
theorem PV.shape {w : World} {v : Value} {s : List (Int × List UInt8)} (h : PV w v s) : ∃ p c, v = .slice p s.length c ∧ s.length ≤ c ∧ c ≤ maxLen ∧ (s = [] ∨ ∃ b o, p = some ⟨b, o, none⟩ ∧ b < w.heap.size) := by
  obtain ⟨b, cap, p, e, h1, h2, h3, h4⟩ := h
  refine ⟨p, cap, e, h1, h2, ?_⟩
  rcases h4 with h4 | ⟨o, e, hlt, hc⟩
  · exact .inl h4
  · exact .inr ⟨b, o, e, hlt⟩
/-- which disks are valid -/
def secB (l : List UInt8) : Bool := decide (l.length = 128)
def penB (n : Nat) (x : Int × List UInt8) : Bool := decide (0 ≤ x.1 ∧ x.1 < n) && decide (x.2.length = 128)
def okS (s : List (List UInt8)) : Bool := decide (1 ≤ s.length ∧ s.length ≤ 4096) && s.all secB
def okP (n : Nat) (p : List (Int × List UInt8)) : Bool := decide (p.length ≤ 4096) && p.all (penB n)
def okL (k : Int) : Bool := decide (-1 ≤ k ∧ k ≤ 65536)
def valid (d : D) : Bool := okS d.s && (okP d.s.length d.p && okL d.left)
def chk (d : D) : Int := if valid d then 0 else 40
def zero : D := ⟨[], [], 0, false⟩
/-- a new block of four cells holds the disk -/
theorem nil_SV (w : World) : SV w (.slice none 0 0) [] := ⟨0, 0, none, rfl, by simp, by simp [maxLen], fun _ => rfl, .inl rfl⟩
theorem nil_PV (w : World) : PV w (.slice none 0 0) [] := ⟨0, 0, none, rfl, by simp, by simp [maxLen], fun _ => rfl, .inl rfl⟩
theorem nil_BV (w : World) : BV w (.slice none 0 0) [] := ⟨0, 0, none, rfl, by simp, by simp [maxLen], fun _ => rfl, .inl rfl⟩
theorem zero_DV (w : World) : DV w (.agg #[.slice none 0 0, .slice none 0 0, .int .i64 0, .bool false]) zero := ⟨_, _, rfl, nil_SV w, nil_PV w, by unfold W64; exact ⟨by decide, by decide⟩⟩
/-- it returns a disk and an error -/
def RetD (d : D) (e : Int) (w : World) (en : Ending) (w' : World) : Prop := ∃ v, en = .returned (.tuple #[v, .int .i64 e]) ∧ DV w' v d ∧ Below w.heap.size w w'
/-- a disk as a value, taken apart -/
structure Op (w : World) (d : D) (ps : Option Addr) (N cs : Nat) (pp : Option Addr) (M cp : Nat) : Prop where
  n : d.s.length = N
  m : d.p.length = M
  sec : SV w (.slice ps N cs) d.s
  pen : PV w (.slice pp M cp) d.p
  left : W64 d.left
abbrev dval (d : D) (ps : Option Addr) (N cs : Nat) (pp : Option Addr) (M cp : Nat) : Value := .agg #[.slice ps N cs, .slice pp M cp, .int .i64 d.left, .bool d.st]
abbrev dbox (w : World) (d : D) (ps : Option Addr) (N cs : Nat) (pp : Option Addr) (M cp : Nat) : World := w.alloc (.cells #[.slice ps N cs, .slice pp M cp, .int .i64 d.left, .bool d.st] 25)
theorem DV.op {w : World} {v : Value} {d : D} (h : DV w v d) : ∃ ps N cs pp M cp, v = dval d ps N cs pp M cp ∧ Hid (Op w d ps N cs pp M cp) ∧ N ≤ cs ∧ cs ≤ 9223372036854775807 ∧ M ≤ cp ∧ cp ≤ 9223372036854775807 := by
  obtain ⟨sv, pv, rfl, hs, hp, hl⟩ := h
  obtain ⟨ps, cs, rfl, hs1, hs2, _⟩ := hs.shape
  obtain ⟨pp, cp, rfl, hp1, hp2, _⟩ := hp.shape
  unfold maxLen at hs2 hp2
  exact ⟨ps, _, cs, pp, _, cp, rfl, Lib.hid ⟨rfl, rfl, hs, hp, hl⟩, hs1, by omega, hp1, by omega⟩
theorem Op.dv {w : World} {d : D} {ps pp : Option Addr} {N cs M cp : Nat} (h : Op w d ps N cs pp M cp) : DV w (dval d ps N cs pp M cp) d := ⟨_, _, rfl, h.sec, h.pen, h.left⟩
theorem Op.below {w w' : World} {d : D} {ps pp : Option Addr} {N cs M cp : Nat} (h : Op w d ps N cs pp M cp) (hb : Below w.heap.size w w') : Op w' d ps N cs pp M cp := ⟨h.n, h.m, h.sec.below hb, h.pen.below hb, h.left⟩
/-- a sector's header -/
theorem Op.secAt {w : World} {d : D} {ps pp : Option Addr} {N cs M cp : Nat} (h : Op w d ps N cs pp M cp) (j : Nat) (hj : j < N) :
    ∃ b o pu L cu l, ps = some ⟨b, o, none⟩ ∧ b < w.heap.size ∧ w.cell? ⟨b, o + j, none⟩ = some (.slice pu L cu) ∧ Hid (d.s[j]? = some l ∧ l.length = L ∧ BV w (.slice pu L cu) l) ∧ L ≤ cu ∧ cu ≤ maxLen := by
  have hj' : j < d.s.length := by rw [h.n]; exact hj
  have hs := h.sec
  obtain ⟨b', cap', p, hv, h1, h2, h3, h4⟩ := hs
  cases hv
  rcases h4 with h4 | ⟨o, e, hlt, hc⟩
  · rw [h4] at hj'; simp at hj'
  · subst e
    obtain ⟨u, h5, h6⟩ := hc j _ (List.getElem?_eq_getElem hj')
    obtain ⟨pu, cu, rfl, h7, h8⟩ := h6.shape
    exact ⟨b', o, pu, _, cu, d.s[j], rfl, hlt, h5, Lib.hid ⟨List.getElem?_eq_getElem hj', rfl, h6⟩, h7, h8⟩
/-- a write that is not synced -/
theorem Op.penAt {w : World} {d : D} {ps pp : Option Addr} {N cs M cp : Nat} (h : Op w d ps N cs pp M cp) (j : Nat) (hj : j < M) :
    ∃ b o n pu L cu l, pp = some ⟨b, o, none⟩ ∧ b < w.heap.size ∧ w.cell? ⟨b, o + j * 2, none⟩ = some (.int .i64 n) ∧ w.cell? ⟨b, o + j * 2 + 1, none⟩ = some (.slice pu L cu) ∧ Hid (d.p[j]? = some (n, l) ∧ l.length = L ∧ BV w (.slice pu L cu) l) ∧ L ≤ cu ∧ cu ≤ maxLen ∧ W64 n := by
  have hj' : j < d.p.length := by rw [h.m]; exact hj
  have hs := h.pen
  obtain ⟨b', cap', p, hv, h1, h2, h3, h4⟩ := hs
  cases hv
  rcases h4 with h4 | ⟨o, e, hlt, hc⟩
  · rw [h4] at hj'; simp at hj'
  · subst e
    obtain ⟨u, h5, h6, h7, h8⟩ := hc j _ (List.getElem?_eq_getElem hj')
    obtain ⟨pu, cu, rfl, h9, h10⟩ := h8.shape
    exact ⟨b', o, d.p[j].1, pu, _, cu, d.p[j].2, rfl, hlt, h5, h6, Lib.hid ⟨List.getElem?_eq_getElem hj', rfl, h8⟩, h9, h10, h7⟩
/-- the cells of a boxed disk, later -/
theorem boxed {w wr : World} {a b c d : Value} {T : TypeId} {m : Nat} (hm : w.heap.size < m) (hb : Below m (w.alloc (.cells #[a, b, c, d] T)) wr) :
    wr.cell? ⟨w.heap.size, 0, none⟩ = some a ∧ wr.cell? ⟨w.heap.size, 1, none⟩ = some b ∧ wr.cell? ⟨w.heap.size, 2, none⟩ = some c ∧ wr.cell? ⟨w.heap.size, 3, none⟩ = some d := by
  refine ⟨?_, ?_, ?_, ?_⟩ <;> (rw [hb.cell (by simpa using hm)]; go_simp)
theorem two_below (w : World) (o o' : Obj) : Below w.heap.size w ((w.alloc o).alloc o') := ((Below.refl _ _).alloc (Nat.le_refl _) _).alloc (by simp) _
/-- the cells of a boxed disk, and of the disk that is returned, later -/
theorem boxedR {w wr : World} {a b c d a' b' c' d' : Value} {T T' : TypeId} {m : Nat} (hm : w.heap.size + 1 < m) (hb : Below m ((w.alloc (.cells #[a, b, c, d] T)).alloc (.cells #[a', b', c', d'] T')) wr) :
    (wr.cell? ⟨w.heap.size, 0, none⟩ = some a ∧ wr.cell? ⟨w.heap.size, 1, none⟩ = some b ∧ wr.cell? ⟨w.heap.size, 2, none⟩ = some c ∧ wr.cell? ⟨w.heap.size, 3, none⟩ = some d) ∧
    Hid (wr.heap[w.heap.size + 1]? = some (.cells #[a', b', c', d'] T' (0, 0))) ∧ (∀ o, wr.frozen? ⟨w.heap.size, o, none⟩ = false) ∧ w.heap.size + 1 < wr.heap.size := by
  have hk : wr.heap[w.heap.size + 1]? = some (.cells #[a', b', c', d'] T' (0, 0)) := by
    rw [hb.block _ hm]
    have h := heap_alloc_new (w.alloc (.cells #[a, b, c, d] T)) (.cells #[a', b', c', d'] T')
    rwa [World.size_alloc] at h
  refine ⟨⟨?_, ?_, ?_, ?_⟩, Lib.hid hk, fun o => ?_, (Array.getElem?_eq_some_iff.1 hk).1⟩
  any_goals (rw [hb.cell (by simp; omega)]; go_simp)
  rw [hb.frozen (by simp; omega)]
  simp
theorem two_later {w w1 : World} {o o' : Obj} (hb : Below ((w.alloc o).alloc o').heap.size ((w.alloc o).alloc o') w1) : Below w.heap.size w w1 := (two_below w o o').trans (hb.mono (by simp; omega))
theorem one_later {w w1 : World} {o : Obj} (hb : Below (w.alloc o).heap.size (w.alloc o) w1) : Below w.heap.size w w1 := (one_new w o).trans (hb.mono (by simp))
theorem info25 : (Try.prog.info? 25).map (·.size) = some 4 := by kernel_rfl
theorem chg_row (w : World) (g : Nat) (cs : Array Value) : Chg g w (w.setRow g cs) := ⟨rfl, rfl, rfl, by simp, fun k _ hk => setRow_other w g k cs hk⟩
/-- a disk is stored whole -/
theorem dk_store {ops : Array Oper} {rest : List Oper} {o : Oper} {a : Act} {w : World} {Q : Exit → Act → World → Prop} (hgd : o.guard = none) (x y : Operand) (ho : o.op = .store 25 x y) (g : Nat) (old : Array Value) (c0 c1 c2 c3 : Value) (hl : w.heap[g]? = some (.cells old 25 (0, 0))) (hold : old.size = 4)
    (hp : a.eval x = .pointer (some ⟨g, 0, none⟩)) (hv : a.eval y = .agg #[c0, c1, c2, c3]) (h1 : c0.oneCell' = true ∧ c1.oneCell' = true ∧ c2.oneCell' = true ∧ c3.oneCell' = true)
    (h : ∀ w2 : World, Hid (w2.heap[g]? = some (.cells #[c0, c1, c2, c3] 25 (0, 0))) → Chg g w w2 → wpList Try.prog ops Q rest (a.put o.dst undef) w2) : wpList Try.prog ops Q (o :: rest) a w :=
  wpList_store_row hgd 25 x y ho g _ hp hv 25 _ hl (by rw [info25]; rfl) (by rw [hold]; rfl) (by simp [h1]) (h _ (Lib.hid (setRow_heap _ _ _ _ _ _ hl)) (chg_row _ _ _))
theorem row_set {w : World} {g k o : Nat} {x : Option Obj} {v : Value} (r : w.heap[g]? = x) (hk : k ≠ g) : (w.setCell ⟨k, o, none⟩ v).heap[g]? = x := by
  rw [Below.heap_setCell _ _ _ _ (fun h => hk h.symm)]
  exact r
/-- a function's two results: a disk and an error -/
theorem results_dk {fn : Func} {p q : Tmp} (h : fn.results = #[.cell p 25, .tmp q]) (tmps : Array Value) (w : World) (g : Nat) (c0 c1 c2 c3 e : Value) (hp : tmps.getD p undef = .pointer (some ⟨g, 0, none⟩)) (he : tmps.getD q undef = e) (hg : w.heap[g]? = some (.cells #[c0, c1, c2, c3] 25 (0, 0))) :
    (results fn tmps).run Try.prog w = .ok (.tuple #[.agg #[c0, c1, c2, c3], e]) w := by
  have hp' : tmps[p]?.getD undef = .pointer (some ⟨g, 0, none⟩) := by simpa using hp
  have he' : tmps[q]?.getD undef = e := by simpa using he
  simp [results, h, hp', he', asAddr, run_loadVar_row w g 25 25 #[c0, c1, c2, c3] (0, 0) _ hg Try.underlying25 rfl (by rw [info25]; rfl)]
end Go.Proofs.Ytanmhjbeookfiaa
