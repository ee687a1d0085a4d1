/-
  Digest: the last blocks.
-/
import Derived.Test.YteeabenmfmeooaaDoorAbs
import Derived.Laws.CopyOwn
namespace Go.Proofs.YteeabenmfmeooaaDoor
open Go Go.RowKit
def byt (c : UInt8) : Value := .int .u8 c.toNat
/-- the bytes lie in block g, from its beginning on -/
def Row (w : World) (g : Nat) (l : List UInt8) : Prop := w.heap[g]? = some (.cells (l.map byt).toArray 5 (0, 0))
theorem Row.get {w : World} {g : Nat} {l : List UInt8} (h : Row w g l) (i : Nat) (hi : i < l.length) : w.cell? ⟨g, i, none⟩ = some (byt (l.getD i 0)) := by
  unfold Row at h
  simp [World.cell?, h, List.getD, List.getElem?_eq_getElem hi]
theorem Row.free {w : World} {g : Nat} {l : List UInt8} (h : Row w g l) (i : Nat) : w.frozen? ⟨g, i, none⟩ = false := by
  unfold Row at h
  simp [World.frozen?, h]
theorem Row.set {w : World} {g : Nat} {l : List UInt8} (h : Row w g l) (i : Nat) (c : UInt8) : Row (w.setCell ⟨g, i, none⟩ (byt c)) g (l.set i c) := by
  unfold Row at h ⊢
  simp only [World.setCell, Array.getElem?_modify, h]
  simp [List.map_set]
theorem Row.lt {w : World} {g : Nat} {l : List UInt8} (h : Row w g l) : g < w.heap.size := (Array.getElem?_eq_some_iff.1 h).1
/-- a slice of bytes that is handed in: it lies in block b, or is empty -/
def BArg (w : World) (b : Nat) (p : Option Addr) (l : List UInt8) : Prop := l = [] ∨ ∃ o, p = some ⟨b, o, none⟩ ∧ b < w.heap.size ∧ ∀ (j : Nat) (c : UInt8), l[j]? = some c → w.cell? ⟨b, o + j, none⟩ = some (byt c)
theorem BArg.below {w w' : World} {b : Nat} {p : Option Addr} {l : List UInt8} (h : BArg w b p l) (hb : Below w.heap.size w w') : BArg w' b p l := by
  rcases h with h | ⟨o, e, c2, c3⟩
  · exact .inl h
  · exact .inr ⟨o, e, Nat.lt_of_lt_of_le c2 hb.size, fun j c hj => (hb.cell (p := ⟨b, o + j, none⟩) c2).trans (c3 j c hj)⟩
/-- a byte of a number -/
def cb (m k : Nat) : UInt8 := UInt8.ofNat (m / 2 ^ (8 * k))
theorem cb_int (m k : Nat) : ((cb m k).toNat : Int) = (m : Int) / 2 ^ (8 * k) % 256 := by
  unfold cb
  rw [UInt8.toNat_ofNat']
  simp
/-- the last bytes hold a number -/
def puts (z m : Nat) (l : List UInt8) : Nat → List UInt8
  | 0 => l
  | k + 1 => (puts z m l k).set (z - 1 - k) (cb m k)
theorem puts_len (z m : Nat) (l : List UInt8) : ∀ k, (puts z m l k).length = l.length
  | 0 => rfl
  | k + 1 => by simp [puts, puts_len z m l k]
def padsz (N : Nat) : Nat := if 64 < N + 9 then 128 else 64
def pad1 (l : List UInt8) (z : Nat) : List UInt8 := l ++ List.replicate (z - l.length) 0
def padl (l : List UInt8) (n : Nat) : List UInt8 := puts (padsz l.length) (n * 8) ((pad1 l (padsz l.length)).set l.length 128) 8
theorem info5 : (Tryd.prog.info? 5).map (fun i => (i.size, i.bytes, i.zero)) = some (1, 1, some (.int .u8 0)) := by kernel_rfl
theorem size5 : (Tryd.prog.info? 5).map (·.size) = some 1 := by kernel_rfl
theorem made_list (z : Nat) : madeCells #[.int .u8 0] z = ((List.replicate z (0 : UInt8)).map byt).toArray := by
  apply Array.ext_getElem?
  intro i
  unfold madeCells
  rw [List.map_replicate]
  by_cases h : i < z
  · simp [h, byt, Nat.mod_one]
  · simp [h]
/-- so many zeros -/
def zrow (z : Nat) : Array Value := ((List.replicate z (0 : UInt8)).map byt).toArray
theorem made_run (z : Nat) (hz : z ≤ 128) (W : World) : (Instr.makeSlice 34 (.int .i64 (z : Int)) (.int .i64 (z : Int))).run Tryd.prog W = .ok (.slice (some ⟨W.heap.size, 0, none⟩) z z) (W.alloc (.cells (zrow z) 5)) := by
  have h5 := info5
  cases hi : Tryd.prog.info? 5 with
  | none => rw [hi] at h5; cases h5
  | some i =>
    rw [hi] at h5
    simp only [Option.map_some, Option.some.injEq, Prod.mk.injEq] at h5
    obtain ⟨s1, s2, s3⟩ := h5
    have h := run_make (P := Tryd.prog) W 34 5 i (.int .u8 0) Tryd.underlying34 hi s3 .i64 .i64 z z (by omega) (Int.le_refl _) (by rw [s2]; omega) (by omega)
    rw [s1] at h
    unfold zrow
    rw [← made_list]
    simpa [Value.cells] using h
theorem row_new (w : World) (z : Nat) : Row (w.alloc (.cells (zrow z) 5)) w.heap.size (List.replicate z 0) := heap_alloc_new _ _
theorem splice_pad (l : List UInt8) (z : Nat) : splice ((List.replicate z (0 : UInt8)).map byt) 0 (l.map byt) = (pad1 l z).map byt := by
  unfold splice pad1
  simp [List.drop_replicate]
theorem pad_copy {w : World} {ops : Array Oper} {rest : List Oper} {o : Oper} {a : Act} {Q : Exit → Act → World → Prop} (hgd : o.guard = none) (d s : Operand)
    (ho : o.op = .call { callee := .builtin .copy, args := #[d, s], argTypes := #[34, 34] }) (g z b N cap : Nat) (p : Option Addr) (l : List UInt8) (hd : a.eval d = .slice (some ⟨g, 0, none⟩) z z) (hs : a.eval s = .slice p N cap)
    (hrow : Row w g (List.replicate z 0)) (hN : l.length = N) (hz : N ≤ z) (hb : BArg w b p l) (B : Nat) (w0 : World) (hbl : Below B w0 w) (hBg : B ≤ g)
    (h : ∀ w', Hid (Row w' g (pad1 l z)) → Below B w0 w' → wpList Tryd.prog ops Q rest (a.put o.dst (.int .i64 (N : Int))) w') : wpList Tryd.prog ops Q (o :: rest) a w := by
  have hl : (l.map byt).length = N := by rw [List.length_map, hN]
  refine wpList_copy_splice hgd d s 34 34 ho 5 Tryd.underlying34 size5 (some ⟨g, 0, none⟩) p z z N cap hd hs g 0 ((List.replicate z 0).map byt) 5 hrow (l.map byt) (by rw [hl]; exact (Nat.min_eq_left hz).symm) ?_ (by rw [hl, List.length_map, List.length_replicate]; omega) ?_ B w0 hbl hBg ?_
  · intro h0
    rw [hl] at h0
    refine ⟨rfl, ?_⟩
    rcases hb with hb | ⟨o', e, c2, c3⟩
    · rw [hb] at hN
      simp at hN
      omega
    · refine ⟨_, e, fun j v hj => ?_⟩
      rw [List.getElem?_map] at hj
      cases hlj : l[j]? with
      | none => rw [hlj] at hj; cases hj
      | some c =>
        rw [hlj] at hj
        cases hj
        rw [Addr.add_lit]
        exact c3 j c hlj
  · intro v hv
    obtain ⟨c, _, rfl⟩ := List.mem_map.1 hv
    rfl
  · intro w' hr hb'
    have := h w' (Lib.hid (by have := hr.out; rw [splice_pad] at this; exact this)) hb'
    rw [hl]
    exact this
theorem BArg.alloc {w : World} {b : Nat} {p : Option Addr} {l : List UInt8} (h : BArg w b p l) (o : Obj) : BArg (w.alloc o) b p l := h.below (one_new w o)
theorem pad1_len {l : List UInt8} {z N : Nat} (hN : l.length = N) (hz : N < z) : (pad1 l z).length = z := by
  unfold pad1
  rw [List.length_append, List.length_replicate]
  omega
theorem pad_facts {w : World} {g z N : Nat} {l : List UInt8} (h : Hid (Row w g (pad1 l z))) (hN : l.length = N) (hz : N < z) : w.cell? ⟨g, N, none⟩ = some (.int .u8 ((pad1 l z).getD N 0).toNat) ∧ w.frozen? ⟨g, N, none⟩ = false :=
  ⟨h.out.get N (by rw [pad1_len hN hz]; exact hz), h.out.free N⟩
theorem puts_facts {w : World} {g z m N k : Nat} {l : List UInt8} (h : Row w g (puts z m ((pad1 l z).set N 128) k)) (hN : l.length = N) (hz : N < z) (hk : k < z) :
    (∃ c : UInt8, w.cell? ⟨g, z - 1 - k, none⟩ = some (.int .u8 c.toNat)) ∧ w.frozen? ⟨g, z - 1 - k, none⟩ = false ∧ Row (w.setCell ⟨g, z - 1 - k, none⟩ (.int .u8 ((m : Int) / 2 ^ (8 * k) % 256))) g (puts z m ((pad1 l z).set N 128) (k + 1)) := by
  refine ⟨⟨_, h.get (z - 1 - k) (by rw [puts_len, List.length_set, pad1_len hN hz]; omega)⟩, h.free _, ?_⟩
  rw [← cb_int]
  exact h.set _ _
def PadR (l : List UInt8) (n : Nat) (w : World) (e : Ending) (w' : World) : Prop := ∃ g, e = .returned (.slice (some ⟨g, 0, none⟩) (padsz l.length) (padsz l.length)) ∧ w.heap.size ≤ g ∧ Row w' g (padl l n) ∧ Below w.heap.size w w'
set_option maxRecDepth 100000 in
set_option maxHeartbeats 1000000 in
theorem pad_128 (b N cap n : Nat) (p : Option Addr) (l : List UInt8) (w : World) (hN : l.length = N) (hN2 : N < 64) (_hc : N ≤ cap) (_hm : cap ≤ 9223372036854775807) (hb : BArg w b p l) (hn : n ≤ 1099511627776) (hlt : 64 < N + 9) :
    Calls Tryd.prog 37 #[.slice p N cap, .int .i64 (n : Int)] w (PadR l n w) := by
  have hz : padsz l.length = 128 := by rw [hN]; exact if_pos hlt
  have HZ := Lib.hid hz
  have mk : ∀ W : World, (Instr.makeSlice 34 (.int .i64 128) (.int .i64 128)).run Tryd.prog W = .ok (.slice (some ⟨W.heap.size, 0, none⟩) 128 128) (W.alloc (.cells (zrow 128) 5)) := made_run 128 (by omega)
  have HN := Lib.hid hN
  have HB := Lib.hid hb
  have HBL := Lib.hid (one_new w)
  clear hz hN hb
  go_enter Tryd.func37, Tryd.ntmps37
  go_wp2_with (refine pad_copy rfl (.tmp 17) (.tmp 18) rfl w.heap.size 128 b N cap p l rfl rfl (row_new w 128) HN.out (by omega) (HB.out.alloc _) w.heap.size w (HBL.out _) (Nat.le_refl _) ?_; rintro w2 hrow2 hb2; obtain ⟨c1, f1⟩ := pad_facts hrow2 HN.out (by omega))
  go_loopw [24] (fun i wr => ∃ k : Nat, k ≤ 8 ∧ i = .int .i64 k ∧ Row wr w.heap.size (puts 128 (n * 8) ((pad1 l 128).set N 128) k) ∧ Below w.heap.size w wr) (fun i _ => 8 - (intOf i).toNat)
  case atStart => exact ⟨0, Nat.zero_le _, rfl, hrow2.out.set N 128, below_set hb2 (Nat.le_refl _) _⟩
  case round =>
    clear hrow2 hb2 c1 f1
    obtain ⟨k, hk, rfl, hrow, hbl⟩ := hrel
    by_cases hk8 : k < 8
    · obtain ⟨⟨c, c2⟩, f2, r2⟩ := puts_facts hrow HN.out (by omega) (show k < 128 by omega)
      rw [show ((n * 8 : Nat) : Int) = (n : Int) * 8 by omega] at r2
      have HR := Lib.hid r2
      have hi : (127 : Int) - k = ((128 - 1 - k : Nat) : Int) := by omega
      have hi2 : ((128 - 1 - k : Nat) : Int) < 128 := by omega
      have he : ((8 : Int) * (k : Int)).toNat = 8 * k := by omega
      have he2 : min (8 * k) 64 = 8 * k := by omega
      clear hrow r2
      go_wp2_with fail
      go_roundw
      case rel => exact ⟨k + 1, by omega, by go_num, HR.out, below_set hbl (Nat.le_refl _) _⟩
      case measure => simp [intOf]; omega
    · have hr8 : Row wr w.heap.size (puts 128 (n * 8) ((pad1 l 128).set N 128) 8) := by
        have e : k = 8 := by omega
        rw [e] at hrow
        exact hrow
      have HR := Lib.hid hr8
      clear hrow hr8
      go_wp2_with fail
      go_ret
      exact ⟨_, by rw [HZ.out]; rfl, Nat.le_refl _, by unfold padl; rw [HZ.out, HN.out]; exact HR.out, hbl⟩
set_option maxRecDepth 100000 in
set_option maxHeartbeats 1000000 in
theorem pad_64 (b N cap n : Nat) (p : Option Addr) (l : List UInt8) (w : World) (hN : l.length = N) (hN2 : N < 64) (_hc : N ≤ cap) (_hm : cap ≤ 9223372036854775807) (hb : BArg w b p l) (hn : n ≤ 1099511627776) (hlt : ¬64 < N + 9) :
    Calls Tryd.prog 37 #[.slice p N cap, .int .i64 (n : Int)] w (PadR l n w) := by
  have hz : padsz l.length = 64 := by rw [hN]; exact if_neg hlt
  have HZ := Lib.hid hz
  have mk : ∀ W : World, (Instr.makeSlice 34 (.int .i64 64) (.int .i64 64)).run Tryd.prog W = .ok (.slice (some ⟨W.heap.size, 0, none⟩) 64 64) (W.alloc (.cells (zrow 64) 5)) := made_run 64 (by omega)
  have HN := Lib.hid hN
  have HB := Lib.hid hb
  have HBL := Lib.hid (one_new w)
  clear hz hN hb
  have hd : decide ((64 : Int) < (N : Int) + 1 + 8) = false := by simp; omega
  clear hlt
  go_enter Tryd.func37, Tryd.ntmps37
  go_wp2_with (refine pad_copy rfl (.tmp 17) (.tmp 18) rfl w.heap.size 64 b N cap p l rfl rfl (row_new w 64) HN.out (by omega) (HB.out.alloc _) w.heap.size w (HBL.out _) (Nat.le_refl _) ?_; rintro w2 hrow2 hb2; obtain ⟨c1, f1⟩ := pad_facts hrow2 HN.out (by omega))
  go_loopw [24] (fun i wr => ∃ k : Nat, k ≤ 8 ∧ i = .int .i64 k ∧ Row wr w.heap.size (puts 64 (n * 8) ((pad1 l 64).set N 128) k) ∧ Below w.heap.size w wr) (fun i _ => 8 - (intOf i).toNat)
  case atStart => exact ⟨0, Nat.zero_le _, rfl, hrow2.out.set N 128, below_set hb2 (Nat.le_refl _) _⟩
  case round =>
    clear hrow2 hb2 c1 f1
    obtain ⟨k, hk, rfl, hrow, hbl⟩ := hrel
    by_cases hk8 : k < 8
    · obtain ⟨⟨c, c2⟩, f2, r2⟩ := puts_facts hrow HN.out (by omega) (show k < 64 by omega)
      rw [show ((n * 8 : Nat) : Int) = (n : Int) * 8 by omega] at r2
      have HR := Lib.hid r2
      have hi : (63 : Int) - k = ((64 - 1 - k : Nat) : Int) := by omega
      have hi2 : ((64 - 1 - k : Nat) : Int) < 64 := by omega
      have he : ((8 : Int) * (k : Int)).toNat = 8 * k := by omega
      have he2 : min (8 * k) 64 = 8 * k := by omega
      clear hrow r2
      go_wp2_with fail
      go_roundw
      case rel => exact ⟨k + 1, by omega, by go_num, HR.out, below_set hbl (Nat.le_refl _) _⟩
      case measure => simp [intOf]; omega
    · have hr8 : Row wr w.heap.size (puts 64 (n * 8) ((pad1 l 64).set N 128) 8) := by
        have e : k = 8 := by omega
        rw [e] at hrow
        exact hrow
      have HR := Lib.hid hr8
      clear hrow hr8
      go_wp2_with fail
      go_ret
      exact ⟨_, by rw [HZ.out]; rfl, Nat.le_refl _, by unfold padl; rw [HZ.out, HN.out]; exact HR.out, hbl⟩
theorem pad_any (b N cap n : Nat) (p : Option Addr) (l : List UInt8) (w : World) (hN : l.length = N) (hN2 : N < 64) (hc : N ≤ cap) (hm : cap ≤ 9223372036854775807) (hb : BArg w b p l) (hn : n ≤ 1099511627776) :
    Calls Tryd.prog 37 #[.slice p N cap, .int .i64 (n : Int)] w (PadR l n w) := by
  by_cases hlt : 64 < N + 9
  · exact pad_128 b N cap n p l w hN hN2 hc hm hb hn hlt
  · exact pad_64 b N cap n p l w hN hN2 hc hm hb hn hlt
theorem padl_len (l : List UInt8) (n : Nat) (h : l.length < 64) : (padl l n).length = padsz l.length := by
  unfold padl
  rw [puts_len, List.length_set, pad1_len rfl (by unfold padsz; split <;> omega)]
end Go.Proofs.YteeabenmfmeooaaDoor
