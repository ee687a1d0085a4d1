/-
  few of the codec's statements, with what it says where it says yes.
-/
import Derived.Test.YtaahmfmelmjahaaWf
namespace Go.Proofs.Ytaahmfmelmjahaa
open Go Go.RowKit
/-- what count returns says this of the value -/
def CntP (s : ByteArray) (q : F) (d : Int) (m : Nat) : Prop := (m : Int) ≤ 72057594037927936 + 1001 * (d + 2) ∧ (m < 1000 → 0 ≤ d ∧ q.len ≤ 150 ∧ F.fits (d - 1) q ∧ m = 1 + s.size / 200 + F.wt q)
def CntR (s : ByteArray) (q : F) (d : Int) (w : World) (e : Ending) (w' : World) : Prop := ∃ m : Nat, e = .returned (.int .i64 m) ∧ CntP s q d m ∧ Below w.heap.size w w'
def CntOK (k n : Int) (s : ByteArray) (q : F) : Prop := ∀ (L : Value) (d : Int) (w : World), Okv k n s → Sl w L q → -1 ≤ d → d ≤ 20 → Calls Try.prog 39 #[val k n s L, .int .i64 d] w (CntR s q d w)
/-- what has been counted of the elements so far -/
def CntI (s : ByteArray) (q : F) (d : Int) (j m : Nat) : Prop := (m : Int) ≤ 72057594037927936 + 1001 * (d + 2) ∧ (m < 1000 → ∃ p, m = 1 + s.size / 200 + p ∧ F.wt q = p + F.wt (F.drop j q) ∧ (F.fits (d - 1) (F.drop j q) → F.fits (d - 1) q))
theorem CntI.start {s : ByteArray} {q : F} {d : Int} (hs : s.size ≤ 9223372036854775807) (hd : -1 ≤ d) : CntI s q d 0 (1 + s.size / 200) :=
  ⟨by omega, fun _ => ⟨0, rfl, by simp [F.drop], fun h => h⟩⟩
theorem CntI.next {s : ByteArray} {q : F} {d : Int} {j m c : Nat} {k1 n1 : Int} {s1 : ByteArray} {q1 : F} (h : CntI s q d j m) (hm : m ≤ 1000) (hd : F.drop j q = .cons k1 n1 s1 q1 (F.drop (j + 1) q)) (hc : CntP s1 q1 (d - 1) c) : CntI s q d (j + 1) (m + c) := by
  refine ⟨by have := hc.1; omega, fun hlt => ?_⟩
  obtain ⟨p, h1, h2, h3⟩ := h.2 (by omega)
  obtain ⟨c1, c2, c3, c4⟩ := hc.2 (by omega)
  refine ⟨p + c, by omega, ?_, fun hf => h3 ?_⟩
  · rw [h2, hd]
    simp only [F.wt]
    omega
  · rw [hd]
    exact ⟨⟨c1, c2, c3⟩, hf⟩
theorem CntI.done {s : ByteArray} {q : F} {d : Int} {j m : Nat} (h : CntI s q d j m) (hd : F.drop j q = .nil) (h0 : 0 ≤ d) (hl : q.len ≤ 150) : CntP s q d m := by
  refine ⟨h.1, fun hlt => ?_⟩
  obtain ⟨p, h1, h2, h3⟩ := h.2 hlt
  rw [hd] at h2 h3
  exact ⟨h0, hl, h3 trivial, by rw [h1, h2]; rfl⟩
theorem CntI.big {s : ByteArray} {q : F} {d : Int} {j m : Nat} (h : CntI s q d j m) (hm : 1000 < m) : CntP s q d m := ⟨h.1, fun hlt => by omega⟩
theorem cnt_thousand (s : ByteArray) (q : F) {d : Int} (hd : -1 ≤ d) : CntP s q d 1000 := ⟨by omega, fun h => by omega⟩
set_option maxRecDepth 100000 in
set_option maxHeartbeats 1000000 in
theorem cnt_list (k n : Int) (s : ByteArray) (q : F) (p : Option Addr) (c len : Nat) (d : Int) (w : World) (hs : s.size ≤ 9223372036854775807) (hl : len ≤ 9223372036854775807) (hq : Hid (q.len = len)) (h : q.All CntOK) (hd0 : -1 ≤ d) (hd1 : d ≤ 20)
    (h4 : Hid (len = 0 ∨ ∃ b o, p = some ⟨b, o, none⟩ ∧ b < w.heap.size ∧ Lies w q b o)) :
    Calls Try.prog 39 #[val k n s (.slice p len c), .int .i64 d] w (CntR s q d w) := by
  have hst := CntI.start (q := q) hs hd0
  have h1000 := cnt_thousand s q hd0
  go_enter Try.func39, Try.ntmps39
  go_wp2_with fail
  · go_ret
    exact ⟨1000, rfl, h1000, one_new _ _⟩
  · have hlen : len ≤ 150 := by have e := ‹0 ≤ d ∧ (len : Int) ≤ 150›; omega
    have hd2 : 0 ≤ d := by assumption
    go_loopw [5, 6] (fun x i wr => ∃ (j m : Nat), j ≤ len ∧ m ≤ 72057594037957936 ∧ i = .int .i64 j ∧ x = .int .i64 m ∧ CntI s q d j m ∧ Below (w.heap.size + 1) (w.alloc (.cells #[.int .i64 k, .int .i64 n, .string s, .slice p len c] 24)) wr) (fun _ i _ => len - (intOf i).toNat)
    case atStart => exact ⟨0, 1 + s.size / 200, Nat.zero_le _, by omega, rfl, by go_num, hst, Below.refl _ _⟩
    case round =>
      obtain ⟨j, m, hj, hm, rfl, rfl, hI, hb⟩ := hrel
      obtain ⟨c0, c1, c2, c3⟩ := boxed hb
      have hb2 : Below w.heap.size w wr := (one_new _ _).trans (hb.mono (by simp))
      clear hst h1000
      by_cases hlt : j < len
      · by_cases hm1 : m ≤ 1000
        · rcases h4.out with e | ⟨b, o, e, hb0, h5⟩
          · exfalso
            omega
          subst e
          obtain ⟨k1, n1, s1, q1, L1, d0, d1, d2, d3, hs1, hL1, hp1, hdr⟩ := h5.elt h j (by rw [hq.out]; exact hlt)
          have g0 := (hb2.cell (p := ⟨b, o + j * 4, none⟩) hb0).trans d0
          have g1 := (hb2.cell (p := ⟨b, o + j * 4 + 1, none⟩) hb0).trans d1
          have g2 := (hb2.cell (p := ⟨b, o + j * 4 + 2, none⟩) hb0).trans d2
          have g3 := (hb2.cell (p := ⟨b, o + j * 4 + 3, none⟩) hb0).trans d3
          have hc := hp1 L1 (d - 1) wr hs1 (hL1.below hb2) (by omega) (by omega)
          have HD := Lib.hid hdr
          have HI := Lib.hid hI
          have hz := hb.size
          simp at hz
          clear d0 d1 d2 d3 hdr hI hL1
          go_wp2_with (go_at_call 39; refine hc.mono ?_; rintro e w' ⟨m', rfl, hcp, hb'⟩; have hbd := hcp.1)
          have hnx := HI.out.next hm1 HD.out hcp
          go_roundw
          case rel => exact ⟨j + 1, m + m', by omega, by have := hnx.1; omega, by go_num, by go_num, hnx, hb.trans (hb'.mono (by omega))⟩
          case measure => simp [intOf]; omega
        · go_wp2_with fail
          go_ret
          exact ⟨m, rfl, hI.big (by omega), hb2⟩
      · have hfin := hI.done (drop_over q j (by rw [hq.out]; omega)) hd2 (by rw [hq.out]; exact hlen)
        go_wp2_with fail
        all_goals
          go_ret
          exact ⟨m, rfl, hfin, hb2⟩
  · go_ret
    exact ⟨1000, rfl, h1000, one_new _ _⟩
theorem cnt_step (k n : Int) (s : ByteArray) (q : F) (h : q.All CntOK) : CntOK k n s q := by
  intro L d w hs hL h0 h1
  have hz : s.size ≤ 9223372036854775807 := by have := hs.2.2; unfold maxLen at this; omega
  rcases hL with ⟨p, c, rfl, rfl⟩ | ⟨b, o, cap, rfl, e1, e2, e3, e4⟩
  · exact cnt_list k n s .nil p c 0 d w hz (by omega) rfl h h0 h1 (.inl rfl)
  · exact cnt_list k n s q _ cap q.len d w hz (by unfold maxLen at e2; omega) rfl h h0 h1 (.inr ⟨b, o, rfl, e3, e4⟩)
theorem cnt_any (k n : Int) (s : ByteArray) (q : F) : CntOK k n s q := (F.all_of cnt_step (.cons k n s q .nil)).1
/-- a value of few parts -/
def FewV (s : ByteArray) (q : F) : Prop := q.len ≤ 150 ∧ F.fits 19 q ∧ 1 + s.size / 200 + F.wt q ≤ 200
def F.few : F → Prop
  | .nil => True
  | .cons _ _ s q r => FewV s q ∧ F.few r
theorem FewV.dep {s : ByteArray} {q : F} (h : FewV s q) : F.dep q ≤ 20 := by
  have := F.dep_fits q 19 (by omega) h.2.1
  omega
theorem FewV.size {s : ByteArray} {q : F} (h : FewV s q) : s.size ≤ 40000 := by
  have := h.2.2
  omega
theorem FewV.sz {s : ByteArray} {q : F} (h : FewV s q) : F.sz q ≤ 42200 := by
  have h1 := F.sz_wt q
  have h2 := h.2.2
  omega
/-- it returns a bool, and if that is true, this holds -/
def RetIf (p : Prop) (w : World) (e : Ending) (w' : World) : Prop := ∃ b, e = .returned (.bool b) ∧ (b = true → p) ∧ Below w.heap.size w w'
set_option maxHeartbeats 400000 in
theorem few1_if (k n : Int) (s : ByteArray) (q : F) (L : Value) (w : World) (hs : Okv k n s) (hL : Sl w L q) : Calls Try.prog 25 #[val k n s L, .int .i64 20] w (RetIf (FewV s q) w) := by
  have hb0 := fun x => one_new w x
  have hc := fun x => cnt_any k n s q L 20 (w.alloc x) hs (hL.below (hb0 x)) (by omega) (by omega)
  obtain ⟨p, c, e, _⟩ := hL.shape
  subst e
  have HC := Lib.hid hc
  clear hc hL
  go_enter Try.func25, Try.ntmps25
  go_wp2_with (go_at_call 39; refine (HC.out _).mono ?_; rintro e w' ⟨m', rfl, hcp, hb'⟩)
  go_ret
  refine ⟨_, rfl, fun hb => ?_, (one_new _ _).trans (hb'.mono (by simp))⟩
  have hm : m' ≤ 200 := by
    have := of_decide_eq_true hb
    omega
  obtain ⟨c1, c2, c3, c4⟩ := hcp.2 (by omega)
  exact ⟨c2, c3, by omega⟩
def FewI (q : F) (j : Nat) : Prop := F.few (F.drop j q) → F.few q
theorem FewI.next {q : F} {j : Nat} {k1 n1 : Int} {s1 : ByteArray} {q1 : F} (h : FewI q j) (hd : F.drop j q = .cons k1 n1 s1 q1 (F.drop (j + 1) q)) (hf : FewV s1 q1) : FewI q (j + 1) := fun h2 => h (by rw [hd]; exact ⟨hf, h2⟩)
set_option maxHeartbeats 1000000 in
theorem few_list (q : F) (p : Option Addr) (c len : Nat) (w : World) (hl : len ≤ 9223372036854775807) (hq : Hid (q.len = len)) (h4 : Hid (len = 0 ∨ ∃ b o, p = some ⟨b, o, none⟩ ∧ b < w.heap.size ∧ Lies w q b o)) :
    Calls Try.prog 11 #[.slice p len c] w (RetIf (F.few q) w) := by
  go_enter Try.func11, Try.ntmps11
  go_wp2_with fail
  go_loopw [7] (fun i wr => ∃ j : Nat, j ≤ len ∧ i = .int .i64 j ∧ FewI q j ∧ Below w.heap.size w wr) (fun i _ => len - (intOf i).toNat)
  case atStart => exact ⟨0, Nat.zero_le _, rfl, fun h => h, Below.refl _ _⟩
  case round =>
    obtain ⟨j, hj, rfl, hI, hb⟩ := hrel
    by_cases hlt : j < len
    · rcases h4.out with e | ⟨b, o, e, hb0, h5⟩
      · exfalso
        omega
      subst e
      obtain ⟨k1, n1, s1, q1, L1, d0, d1, d2, d3, hs1, hL1, _, hdr⟩ := h5.elt (F.all_true _) j (by rw [hq.out]; exact hlt)
      have g0 := (hb.cell (p := ⟨b, o + j * 4, none⟩) hb0).trans d0
      have g1 := (hb.cell (p := ⟨b, o + j * 4 + 1, none⟩) hb0).trans d1
      have g2 := (hb.cell (p := ⟨b, o + j * 4 + 2, none⟩) hb0).trans d2
      have g3 := (hb.cell (p := ⟨b, o + j * 4 + 3, none⟩) hb0).trans d3
      have hL := hL1.below hb
      have hc := fun x => few1_if k1 n1 s1 q1 L1 (wr.alloc x) hs1 (hL.below (one_new wr x))
      obtain ⟨p', c', hsh, _⟩ := hL.shape
      subst hsh
      have HD := Lib.hid hdr
      have HC := Lib.hid hc
      clear d0 d1 d2 d3 hdr hL1 hL hc
      go_wp2_with (go_at_call 25; refine (HC.out _).mono ?_; rintro e w' ⟨m', rfl, hif, hb'⟩; cases m')
      · go_ret
        exact ⟨false, rfl, (fun h => by cases h), (hb.alloc hb.size _).trans (hb'.mono (by have := hb.size; simp; omega))⟩
      · go_roundw
        case rel => exact ⟨j + 1, by omega, by go_num, hI.next HD.out (hif (by first | rfl | trivial)), (hb.alloc hb.size _).trans (hb'.mono (by have := hb.size; simp; omega))⟩
        case measure => simp [intOf]; omega
    · have hfin : F.few q := hI (by rw [drop_over q j (by rw [hq.out]; omega)]; trivial)
      have HF := Lib.hid hfin
      clear hfin
      go_wp2_with fail
      go_ret
      exact ⟨true, rfl, fun _ => HF.out, hb⟩
theorem few_if (q : F) (L : Value) (w : World) (hL : Sl w L q) : Calls Try.prog 11 #[L] w (RetIf (F.few q) w) := by
  rcases hL with ⟨p, c, rfl, rfl⟩ | ⟨b, o, cap, rfl, e1, e2, e3, e4⟩
  · exact few_list .nil p c 0 w (by omega) rfl (.inl rfl)
  · exact few_list q _ cap q.len w (by unfold maxLen at e2; omega) rfl (.inr ⟨b, o, rfl, e3, e4⟩)
end Go.Proofs.Ytaahmfmelmjahaa
