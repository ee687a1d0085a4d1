/-
  The writer of the codec: values.
-/
import Derived.Test.YtaahmfmelmjahaaWr
import Derived.Test.YtaahmfmelmjahaaSize
import Derived.StillTailTactics
import Derived.Deep.RegionLaw
namespace Go.Proofs.Ytaahmfmelmjahaa
open Go Go.RowKit
def Writes (b : Nat) (v : Value) (l new : List UInt8) (w : World) (e : Ending) (w' : World) : Prop := e = .returned (.tuple #[]) ∧ ∃ v', WSt w' b v' (l ++ new) ∧ Wrote b v w v' w'
theorem Wrote.below {B b : Nat} {v v' : Value} {w0 w w' : World} (h : Wrote b v w v' w') (h0 : Below B w0 w) (hB : B ≤ w.heap.size) (hb : B ≤ b) (hv : ∀ k, v.ownBlock = some k → B ≤ k) : Below B w0 w' :=
  h0.trans ⟨h.os, h.tape, h.output, h.size, fun k hk => h.block k (by omega) (by omega) (fun e => by have := hv k e.symm; omega)⟩
/-- a block of the caller that is neither the writer nor its slice's -/
theorem Wrote.cell {b : Nat} {v v' : Value} {w w' : World} (h : Wrote b v w v' w') {k o : Nat} {x : Value} (hk : k ≠ b) (hv : v.ownBlock ≠ some k) (hc : w.cell? ⟨k, o, none⟩ = some x) : w'.cell? ⟨k, o, none⟩ = some x := by
  have hlt : k < w.heap.size := World.block_lt_of_cell? _ _ hc
  rw [World.cell?_of_block (w := w) (a := ⟨k, o, none⟩) (h.block k hlt hk (fun e => hv e.symm))]
  exact hc
theorem WSt.below {w w' : World} {b : Nat} {v : Value} {l : List UInt8} (h : WSt w b v l) (hb : Below w.heap.size w w') : WSt w' b v l :=
  ⟨by rw [hb.block b h.lt]; exact h.blk, h.own.keep hb.size fun k hk => hb.block k (h.own.lt hk), h.ne⟩
theorem Wrote.from {b : Nat} {v v' : Value} {w0 w w' : World} (h : Wrote b v w v' w') (hb : Below w0.heap.size w0 w) : Wrote b v w0 v' w' :=
  ⟨h.os.trans hb.os, h.tape.trans hb.tape, h.output.trans hb.output, Nat.le_trans hb.size h.size, fun k hk hkb hkv => by
    rw [h.block k (Nat.lt_of_lt_of_le hk hb.size) hkb hkv]
    exact hb.block k hk, fun k hk => by
    rcases h.own k hk with e | e
    · exact .inl e
    · exact .inr (Nat.le_trans hb.size e)⟩
set_option maxHeartbeats 400000 in
theorem wint_any (k n : Int) (s : ByteArray) (p : Option Addr) (len c b : Nat) (v : Value) (l : List UInt8) (w : World) (hs : Okv k n s) (hlen : len ≤ 9223372036854775807) (h : WSt w b v l) (hl : l.length + 10 ≤ 1099511627999) :
    Calls Try.prog 40 #[.pointer (some ⟨b, 0, none⟩), val k n s (.slice p len c)] w (Writes b v l (num (hdv k n s.size len)) w) := by
  have h46 := fun w' => hd_any k n s p len c w' hs hlen
  have hu : U64 (hdv k n s.size len) := by
    have := hdv_lt (q := .nil) hs (by simp [F.len])
    have h1 := uns_lt hs.2.1
    have h2 := hs.2.2
    unfold maxLen at h2
    unfold U64 hdv
    split
    · omega
    · split <;> omega
  have h55 := fun w' (hst : WSt w' b v l) => wnum_any b _ v l w' hu hst hl
  generalize hdv k n s.size len = hd at *
  have H46 := Lib.hid h46
  have H55 := Lib.hid h55
  clear h46 h55 hs
  go_enter Try.func40, Try.ntmps40
  go_wp2_with fail
  refine (H46.out _).mono ?_
  rintro e w1 ⟨rfl, hb1⟩
  have hb2 : Below w.heap.size w w1 := (one_new _ _).trans (hb1.mono (by simp))
  go_wp2_with fail
  refine (H55.out _ (h.below hb2)).mono ?_
  rintro e w2 ⟨rfl, v', hst, hwr⟩
  go_wp2_with fail
  go_end0
  exact ⟨rfl, v', hst, hwr.from hb2⟩
/-- what stands behind an append of bytes to the writer's slice, before the store -/
theorem WSt.after2 {w w' : World} {b : Nat} {v v' : Value} {l new : List UInt8} (h : WSt w b v l) (hpos : 0 < l.length + new.length) (hown : Own w' v' (l.map byt ++ new.map byt)) (hg : w.grownBy w' v.ownBlock)
    (hnew : v'.ownBlock = v.ownBlock ∨ ∃ k, v'.ownBlock = some k ∧ w.heap.size ≤ k) :
    ∃ g cap n, v' = .slice (some ⟨g, 0, none⟩) n cap ∧ w'.cell? ⟨b, 0, none⟩ = some v ∧ w'.frozen? ⟨b, 0, none⟩ = false ∧
      WSt (w'.setCell ⟨b, 0, none⟩ (.slice (some ⟨g, 0, none⟩) n cap)) b (.slice (some ⟨g, 0, none⟩) n cap) (l ++ new) ∧ Wrote b v w (.slice (some ⟨g, 0, none⟩) n cap) (w'.setCell ⟨b, 0, none⟩ (.slice (some ⟨g, 0, none⟩) n cap)) := by
  obtain ⟨c0, f0⟩ := h.cell
  have hb' : w'.heap[b]? = w.heap[b]? := hg.block b h.lt (fun e => h.ne e.symm)
  obtain ⟨g, cap, e, _⟩ := hown.form (by simpa using hpos)
  generalize (l.map byt ++ new.map byt).length = n at e
  subst e
  obtain ⟨s1, s2⟩ := h.step (new := new) hown hg hnew rfl
  exact ⟨g, cap, n, rfl, by rw [World.cell?_of_block (w := w) (a := ⟨b, 0, none⟩) hb']; exact c0, by rw [World.frozen?_of_block (w := w) (a := ⟨b, 0, none⟩) hb']; exact f0, s1, s2⟩
theorem num_pos (u : Nat) : 0 < (num u).length := by
  unfold num
  rw [numF]
  split <;> simp
theorem bytes_map (s : ByteArray) : byteCells s = s.data.toList.map byt := rfl
set_option maxHeartbeats 1000000 in
theorem wtext_any (k n : Int) (s : ByteArray) (p : Option Addr) (len c b : Nat) (v : Value) (l : List UInt8) (w : World) (hs : Okv k n s) (hlen : len ≤ 9223372036854775807) (h : WSt w b v l) (hl : l.length + 10 + s.size ≤ 1099511627999) :
    Calls Try.prog 41 #[.pointer (some ⟨b, 0, none⟩), val k n s (.slice p len c)] w (Writes b v l (num (hdv k n s.size len) ++ s.data.toList) w) := by
  obtain ⟨i0, hi, hz0, hz1, hz2⟩ := info_parts Try.info5
  have h46 := fun w' => hd_any k n s p len c w' hs hlen
  have hu : U64 (hdv k n s.size len) := by
    have h1 := uns_lt hs.2.1
    have h2 := hs.2.2
    unfold maxLen at h2
    unfold U64 hdv
    split
    · omega
    · split <;> omega
  have h55 := fun w' (hst : WSt w' b v l) => wnum_any b _ v l w' hu hst (by omega)
  have hnl := nlen_le (hdv k n s.size len)
  unfold nlen at hnl
  have hnp := num_pos (hdv k n s.size len)
  generalize hdv k n s.size len = hd at *
  generalize num hd = nm at *
  have H46 := Lib.hid h46
  have H55 := Lib.hid h55
  clear h46 h55 hs
  have hbl := h.lt
  have hol := fun k hk => h.own.lt (k := k) hk
  go_enter Try.func41, Try.ntmps41
  go_wp2_with fail
  refine (H46.out _).mono ?_
  rintro e w1 ⟨rfl, hb1⟩
  have hb2 : Below w.heap.size w w1 := (one_new _ _).trans (hb1.mono (by simp))
  obtain ⟨a0, a1, a2, a3⟩ := boxed (hb1.mono (by simp))
  go_wp2_with fail
  refine (H55.out _ (h.below hb2)).mono ?_
  rintro e w2 ⟨rfl, v', hst, hwr⟩
  have A2 := hwr.cell (k := w.heap.size) (by omega) (fun e => by have := hol _ e; omega) a2
  obtain ⟨c0, f0⟩ := hst.cell
  have hw := hwr.from hb2
  clear H46 H55 a0 a1 a2 a3 hb1 hwr h
  go_wp2_with fail
  have hown : Own w2.drew v' ((l ++ nm).map byt) := hst.own.keep (Nat.le_refl _) fun _ _ => rfl
  have HO := Lib.hid hown
  have hstd : WSt w2.drew b v' (l ++ nm) := ⟨hst.blk, hown, hst.ne⟩
  have hb63 : ((l ++ nm).map byt).length + s.size ≤ maxLen := by rw [List.length_map, List.length_append]; unfold maxLen; omega
  have hb48 : (((l ++ nm).map byt).length + s.size) * 1 ≤ 140737488355328 := by rw [List.length_map, List.length_append]; omega
  have H63 := Lib.hid hb63
  have H48 := Lib.hid hb48
  have hp0 : 0 < (l ++ nm).length + s.data.toList.length := by rw [List.length_append]; omega
  have HP := Lib.hid hp0
  clear hown hb63 hb48 hp0
  go_region_law (refine step_own rfl (.tmp 12) (.tmp 14) 27 9 rfl 5 i0 (.int .u8 0) 1 Try.underlying27 hi hz0 hz1 hz2 rfl v' (.string s) ((l ++ nm).map byt) (by simp [Act.eval, Act.put]) HO.out s.size (byteCells s) (by simp [Act.eval, Act.put]) (Src.ofString _ Try.underlying9 s) H63.out H48.out ?_; intro v2 w3 hown3 hgrow hnew; obtain ⟨g', cap', n', e', c1, f1, s1, s2⟩ := hstd.after2 HP.out hown3 hgrow hnew; subst e')
  all_goals
    go_end0
    exact ⟨rfl, _, by rw [← List.append_assoc]; exact s1, hw.trans ⟨s2.os, s2.tape, s2.output, s2.size, s2.block, s2.own⟩⟩
theorem F.wf_elt {q : F} (h : F.wf q = true) : ∀ {j : Nat} {k n : Int} {s : ByteArray} {a r : F}, F.drop j q = .cons k n s a r → wfv k n s.size a.len (F.wf a) = true := by
  induction q with
  | nil => intro j k n s a r e; cases j <;> cases e
  | cons k0 n0 s0 q0 r0 _ ih =>
    simp only [F.wf, Bool.and_eq_true] at h
    intro j k n s a r e
    cases j with
    | zero =>
      simp only [F.drop, F.cons.injEq] at e
      obtain ⟨rfl, rfl, rfl, rfl, rfl⟩ := e
      exact h.1
    | succ j => exact ih h.2 (j := j) e
/-- the encoding of one value -/
def encv (k n : Int) (s : ByteArray) (q : F) : List UInt8 := UInt8.ofNat k.toNat :: (num (hdv k n s.size q.len) ++ (s.data.toList ++ F.enc q))
theorem encv_length (k n : Int) (s : ByteArray) (q : F) : (encv k n s q).length = szv k n s q := by
  unfold encv szv nlen
  have h3 : s.data.toList.length = s.size := by rw [Array.length_toList]; rfl
  rw [List.length_cons, List.length_append, List.length_append, F.sz_enc, h3]
  omega
/-- a value is written -/
def WvOK (k n : Int) (s : ByteArray) (q : F) : Prop := ∀ (L : Value) (w0 w : World) (b : Nat) (v : Value) (l : List UInt8), Okv k n s → Sl w0 L q → Below w0.heap.size w0 w → w0.heap.size ≤ b → (∀ j, v.ownBlock = some j → w0.heap.size ≤ j) →
  WSt w b v l → wfv k n s.size q.len (F.wf q) = true → l.length + szv k n s q ≤ 1099511627776 → Calls Try.prog 27 #[.pointer (some ⟨b, 0, none⟩), val k n s L] w (Writes b v l (encv k n s q) w)
theorem enc_drop {q : F} {k n : Int} {s : ByteArray} {a : F} {j : Nat} {pre : List UInt8} (h : F.enc q = pre ++ F.enc (F.drop j q)) (h1 : F.drop j q = .cons k n s a (F.drop (j + 1) q)) :
    F.enc q = (pre ++ encv k n s a) ++ F.enc (F.drop (j + 1) q) := by
  rw [h, h1, List.append_assoc]
  rfl
set_option maxHeartbeats 1000000 in
theorem wlist_any (k n : Int) (s : ByteArray) (q : F) (p : Option Addr) (len c b : Nat) (v : Value) (l : List UInt8) (w0 w : World) (hs : Okv k n s) (hlen : len ≤ 9223372036854775807) (hq : Hid (q.len = len)) (hall : q.All WvOK)
    (h4 : Hid (len = 0 ∨ ∃ b' o, p = some ⟨b', o, none⟩ ∧ b' < w0.heap.size ∧ Lies w0 q b' o)) (hwf : Hid (F.wf q = true)) (hb0 : Below w0.heap.size w0 w) (hbb : w0.heap.size ≤ b) (hbv : ∀ j, v.ownBlock = some j → w0.heap.size ≤ j)
    (h : WSt w b v l) (hl : l.length + (num (hdv k n s.size len)).length + (F.enc q).length ≤ 1099511627776) :
    Calls Try.prog 42 #[.pointer (some ⟨b, 0, none⟩), val k n s (.slice p len c)] w (Writes b v l (num (hdv k n s.size len) ++ F.enc q) w) := by
  have h46 := fun w' => hd_any k n s p len c w' hs hlen
  have hu : U64 (hdv k n s.size len) := by
    have h1 := uns_lt hs.2.1
    have h2 := hs.2.2
    unfold maxLen at h2
    unfold U64 hdv
    split
    · omega
    · split <;> omega
  have h55 := fun w' (hst : WSt w' b v l) => wnum_any b _ v l w' hu hst (by omega)
  have hnl := nlen_le (hdv k n s.size len)
  unfold nlen at hnl
  generalize hdv k n s.size len = hd at *
  generalize num hd = nm at *
  have H46 := Lib.hid h46
  have H55 := Lib.hid h55
  clear h46 h55 hs
  have hbl := h.lt
  have hol := fun k hk => h.own.lt (k := k) hk
  go_enter Try.func42, Try.ntmps42
  go_wp2_with fail
  refine (H46.out _).mono ?_
  rintro e w1 ⟨rfl, hb1⟩
  have hb2 : Below w.heap.size w w1 := (one_new _ _).trans (hb1.mono (by simp))
  obtain ⟨a0, a1, a2, a3⟩ := boxed (hb1.mono (by simp))
  go_wp2_with fail
  refine (H55.out _ (h.below hb2)).mono ?_
  rintro e w2 ⟨rfl, v', hst, hwr⟩
  have A3 := hwr.cell (k := w.heap.size) (by omega) (fun e => by have := hol _ e; omega) a3
  have hw := hwr.from hb2
  have hol' : ∀ j, v'.ownBlock = some j → w0.heap.size ≤ j := fun j hj => by
    rcases hw.own j hj with e | e
    · exact hbv j e
    · have := hb0.size; omega
  clear H46 H55 a0 a1 a2 a3 hb1 hwr h
  go_wp2_with fail
  have hst0 : WSt w2 b v' (l ++ nm ++ []) := by simpa using hst
  clear A3 hst
  go_loopw [13] (fun i wr => ∃ (j : Nat) (vr : Value) (pre : List UInt8), j ≤ len ∧ i = .int .i64 j ∧ Hid (F.enc q = pre ++ F.enc (F.drop j q)) ∧ WSt wr b vr (l ++ nm ++ pre) ∧ Wrote b v w vr wr) (fun i _ => len - (intOf i).toNat)
  case atStart => exact ⟨0, v', [], Nat.zero_le _, rfl, rfl, hst0, hw⟩
  case round =>
    obtain ⟨j, vr, pre, hj, rfl, hsame, hst, hwr⟩ := hrel
    clear hst0 hw hol'
    have hb : Below w0.heap.size w0 wr := hwr.below hb0 hb0.size hbb hbv
    have holr : ∀ j, vr.ownBlock = some j → w0.heap.size ≤ j := fun j hj => by
      rcases hwr.own j hj with e | e
      · exact hbv j e
      · have := hb0.size; omega
    by_cases hlt : j < len
    · rcases h4.out with e | ⟨b', o, e, hb', h5⟩
      · exfalso
        omega
      subst e
      obtain ⟨k1, n1, s1, q1, L1, d0, d1, d2, d3, hs1, hL1, hp1, hd1⟩ := h5.elt hall j (by rw [hq.out]; exact hlt)
      have hwf1 := F.wf_elt hwf.out hd1
      have hE := enc_drop hsame.out hd1
      have hle : (l ++ nm ++ pre).length + szv k1 n1 s1 q1 ≤ 1099511627776 := by
        have e := congrArg List.length hE
        rw [List.length_append, List.length_append, encv_length] at e
        rw [List.length_append, List.length_append]
        omega
      have hE2 := Lib.hid hE
      have g0 := (hb.cell (p := ⟨b', o + j * 4, none⟩) hb').trans d0
      have g1 := (hb.cell (p := ⟨b', o + j * 4 + 1, none⟩) hb').trans d1
      have g2 := (hb.cell (p := ⟨b', o + j * 4 + 2, none⟩) hb').trans d2
      have g3 := (hb.cell (p := ⟨b', o + j * 4 + 3, none⟩) hb').trans d3
      have hbx := fun x => hb.trans ((one_new wr x).mono hb.size)
      have hc := fun x => hp1 L1 w0 (wr.alloc x) b vr _ hs1 hL1 (hbx x) hbb holr (hst.alloc x) hwf1 hle
      obtain ⟨p1, c1', e1, _⟩ := hL1.shape
      subst e1
      have HC := Lib.hid hc
      clear d0 d1 d2 d3 hd1 hL1 hsame hE hc hp1 hle hbx
      go_wp2_with (go_at_call 27; refine (HC.out _).mono ?_; rintro e w' ⟨rfl, v2, hst2, hwr2⟩)
      go_roundw
      case rel => exact ⟨j + 1, v2, pre ++ encv k1 n1 s1 q1, by omega, by go_num, hE2, by rw [← List.append_assoc]; exact hst2, hwr.trans hwr2.alloc⟩
      case measure => simp [intOf]; omega
    · have hfin : F.enc q = pre := by rw [hsame.out, drop_over q j (by rw [hq.out]; omega)]; exact List.append_nil _
      have HF := Lib.hid hfin
      clear hfin
      go_wp2_with fail
      go_end0
      exact ⟨rfl, vr, by rw [HF.out, ← List.append_assoc]; exact hst, hwr⟩
end Go.Proofs.Ytaahmfmelmjahaa
