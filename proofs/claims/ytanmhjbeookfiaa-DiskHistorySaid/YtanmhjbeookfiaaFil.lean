/-
  Disks: filled and put: rows of bytes that the call makes itself.
-/
import Derived.Test.YtanmhjbeookfiaaDk
import Derived.Test.YtanmhjbeookfiaaLater
import Derived.Test.YtanmhjbeookfiaaChecked
import Derived.Laws.CopyOwn
import Derived.Deep.CutRange
namespace Go.Proofs.Ytanmhjbeookfiaa
open Go Go.RowKit
/-- a block that the call made holds these bytes -/
def Row (w : World) (g : Nat) (l : List UInt8) : Prop := w.heap[g]? = some (.cells (l.map byt).toArray 5 (0, 0))
theorem Row.get {w : World} {g : Nat} {l : List UInt8} (h : Row w g l) (i : Nat) (hi : i < l.length) : w.cell? ⟨g, i, none⟩ = some (byt (l.getD i 0)) := by
  unfold Row at h
  simp [World.cell?, h, List.getD, List.getElem?_eq_getElem hi]
theorem Row.free {w : World} {g : Nat} {l : List UInt8} (h : Row w g l) (i : Nat) : w.frozen? ⟨g, i, none⟩ = false := by
  unfold Row at h
  simp [World.frozen?, h]
theorem Row.set {w : World} {g : Nat} {l : List UInt8} (h : Row w g l) (i : Nat) (c : UInt8) : Row (w.setCell ⟨g, i, none⟩ (byt c)) g (l.set i c) := by
  unfold Row at h ⊢
  simp only [World.setCell, Array.getElem?_modify, h]
  simp [List.map_set]
theorem Row.lt {w : World} {g : Nat} {l : List UInt8} (h : Row w g l) : g < w.heap.size := (Array.getElem?_eq_some_iff.1 h).1
theorem Row.below {w w' : World} {g : Nat} {l : List UInt8} (h : Row w g l) (hb : Below w.heap.size w w') : Row w' g l := (hb.block g h.lt).trans h
theorem Row.bts {w : World} {g : Nat} {l : List UInt8} (h : Row w g l) : Bts w g (some ⟨g, 0, none⟩) l := by
  refine .inr ⟨0, rfl, h.lt, fun j c hj => ?_⟩
  obtain ⟨hlt, e⟩ := List.getElem?_eq_some_iff.1 hj
  rw [Nat.zero_add, h.get j hlt]
  simp [List.getD, hj]
theorem Row.bv {w : World} {g : Nat} {l : List UInt8} (h : Row w g l) (hl : l.length ≤ maxLen) : BV w (.slice (some ⟨g, 0, none⟩) l.length l.length) l := ⟨g, _, _, rfl, Nat.le_refl _, hl, (fun e => by cases e), h.bts⟩
theorem info5 : (Try.prog.info? 5).map (fun i => (i.size, i.bytes, i.zero)) = some (1, 1, some (.int .u8 0)) := by kernel_rfl
theorem size5 : (Try.prog.info? 5).map (·.size) = some 1 := by kernel_rfl
theorem made_list (z : Nat) : madeCells #[.int .u8 0] z = ((List.replicate z (0 : UInt8)).map byt).toArray := by
  apply Array.ext_getElem?
  intro i
  unfold madeCells
  rw [List.map_replicate]
  by_cases h : i < z
  · simp [h, byt, Nat.mod_one]
  · simp [h]
def zrow (z : Nat) : Array Value := ((List.replicate z (0 : UInt8)).map byt).toArray
theorem made_run (z : Nat) (hz : z ≤ 4096) (W : World) : (Instr.makeSlice 35 (.int .i64 (z : Int)) (.int .i64 (z : Int))).run Try.prog W = .ok (.slice (some ⟨W.heap.size, 0, none⟩) z z) (W.alloc (.cells (zrow z) 5)) := by
  have h5 := info5
  cases hi : Try.prog.info? 5 with
  | none => rw [hi] at h5; cases h5
  | some i =>
    rw [hi] at h5
    simp only [Option.map_some, Option.some.injEq, Prod.mk.injEq] at h5
    obtain ⟨s1, s2, s3⟩ := h5
    have h := run_make (P := Try.prog) W 35 5 i (.int .u8 0) Try.underlying35 hi s3 .i64 .i64 z z (by omega) (Int.le_refl _) (by rw [s2]; omega) (by omega)
    rw [s1] at h
    unfold zrow
    rw [← made_list]
    simpa [Value.cells] using h
theorem mk128 (W : World) : (Instr.makeSlice 35 (.int .i64 128) (.int .i64 128)).run Try.prog W = .ok (.slice (some ⟨W.heap.size, 0, none⟩) 128 128) (W.alloc (.cells (zrow 128) 5)) := made_run 128 (by omega) W
theorem row_new (w : World) (z : Nat) : Row (w.alloc (.cells (zrow z) 5)) w.heap.size (List.replicate z 0) := heap_alloc_new _ _
/-- bytes over the first bytes of others -/
def over (L l : List UInt8) : List UInt8 := l ++ L.drop l.length
theorem over_len {L l : List UInt8} (h : l.length ≤ L.length) : (over L l).length = L.length := by
  unfold over
  rw [List.length_append, List.length_drop]
  omega
theorem splice_over (L l : List UInt8) : splice (L.map byt) 0 (l.map byt) = (over L l).map byt := by
  unfold splice over
  simp
theorem Bts.below {w w' : World} {b : Nat} {p : Option Addr} {l : List UInt8} (h : Bts w b p l) (hb : Below w.heap.size w w') : Bts w' b p l := by
  rcases h with h4 | ⟨o, e, hlt, hc⟩
  · exact .inl h4
  · exact .inr ⟨o, e, Nat.lt_of_lt_of_le hlt hb.size, fun j c hj => (bcells hb hlt _).trans (hc j c hj)⟩
theorem copy_args {w : World} {b g m N : Nat} {p : Option Addr} {l L : List UInt8} (hN : l.length = N) (hm : m ≤ L.length) (hb : Bts w b p l) :
    ((l.take m).map byt).length = Nat.min N m ∧ (0 < ((l.take m).map byt).length → (some ⟨g, 0, none⟩ : Option Addr) = some ⟨g, 0, none⟩ ∧ ∃ ad, p = some ad ∧ ∀ j v, ((l.take m).map byt)[j]? = some v → w.cell? (ad.add j) = some v) ∧
    0 + ((l.take m).map byt).length ≤ (L.map byt).length ∧ ∀ v ∈ (l.take m).map byt, v.oneCell' = true := by
  refine ⟨by rw [List.length_map, List.length_take, hN, Nat.min_comm], fun h0 => ⟨rfl, ?_⟩, by simp; omega, fun v hv => ?_⟩
  · rw [List.length_map, List.length_take] at h0
    rcases hb with hb | ⟨o', e, c2, c3⟩
    · rw [hb] at h0
      simp at h0
    · refine ⟨_, e, fun j v hj => ?_⟩
      rw [List.getElem?_map] at hj
      cases hlj : (l.take m)[j]? with
      | none => rw [hlj] at hj; cases hj
      | some c =>
        rw [hlj] at hj
        cases hj
        rw [Addr.add_lit]
        refine c3 j c ?_
        rw [List.getElem?_take] at hlj
        split at hlj
        · exact hlj
        · cases hlj
  · obtain ⟨c, _, rfl⟩ := List.mem_map.1 hv
    rfl
theorem row_copy {w : World} {ops : Array Oper} {rest : List Oper} {o : Oper} {a : Act} {Q : Exit → Act → World → Prop} (hgd : o.guard = none) (d s : Operand)
    (ho : o.op = .call { callee := .builtin .copy, args := #[d, s], argTypes := #[35, 35] }) (g m dc b N cap : Nat) (p : Option Addr) (L l : List UInt8) (hd : a.eval d = .slice (some ⟨g, 0, none⟩) m dc) (hs : a.eval s = .slice p N cap)
    (hrow : Row w g L) (hN : l.length = N) (hm : m ≤ L.length) (hb : Bts w b p l) (B : Nat) (w0 : World) (hbl : Below B w0 w) (hBg : B ≤ g)
    (h : ∀ w', Hid (Row w' g (over L (l.take m))) → Below B w0 w' → wpList Try.prog ops Q rest (a.put o.dst (goInt ((l.take m).map byt).length)) w') : wpList Try.prog ops Q (o :: rest) a w := by
  obtain ⟨h1, h2, h3, h4⟩ := copy_args (g := g) hN hm hb
  refine wpList_copy_splice hgd d s 35 35 ho 5 Try.underlying35 size5 (some ⟨g, 0, none⟩) p m dc N cap hd hs g 0 (L.map byt) 5 hrow ((l.take m).map byt) h1 h2 h3 h4 B w0 hbl hBg ?_
  intro w' hr hb'
  exact h w' (Lib.hid (by have := hr.out; rw [splice_over] at this; exact this)) hb'
/-- a sector that begins with these bytes -/
def fill (l : List UInt8) : List UInt8 := over (List.replicate 128 0) (l.take 128)
theorem fill_len (l : List UInt8) : (fill l).length = 128 := by
  unfold fill
  rw [over_len (by simp; omega)]
  simp
/-- it returns a new block with these bytes -/
def RowR (l : List UInt8) (n : Nat) (w : World) (e : Ending) (w' : World) : Prop := ∃ g, e = .returned (.slice (some ⟨g, 0, none⟩) n n) ∧ w.heap.size ≤ g ∧ Row w' g l ∧ Below w.heap.size w w'
set_option maxHeartbeats 1000000 in
theorem filled_any (v : Value) (l : List UInt8) (w : World) (h : BV w v l) : Calls Try.prog 34 #[v] w (RowR (fill l) 128 w) := by
  obtain ⟨b, cap, p, rfl, h1, h2, h3, h4⟩ := h
  have HB := Lib.hid h4
  have HR : Hid (RowR (fill l) 128 w = RowR (over (List.replicate 128 0) (l.take 128)) 128 w) := Lib.hid rfl
  unfold maxLen at h2
  generalize hN : l.length = N at *
  have HN := Lib.hid hN
  clear h4 h3 hN
  rw [HR.out]
  have mk := mk128
  go_enter Try.func34, Try.ntmps34
  go_wp2_with (refine row_copy rfl (.tmp 5) (.tmp 6) rfl w.heap.size 128 128 b N cap p (List.replicate 128 0) l rfl rfl (row_new w 128) HN.out (by simp) (HB.out.below (one_new w _)) w.heap.size w (one_new w _) (Nat.le_refl _) ?_; rintro w2 hrow2 hb2)
  go_ret
  exact ⟨_, rfl, Nat.le_refl _, hrow2.out, hb2⟩
end Go.Proofs.Ytanmhjbeookfiaa
