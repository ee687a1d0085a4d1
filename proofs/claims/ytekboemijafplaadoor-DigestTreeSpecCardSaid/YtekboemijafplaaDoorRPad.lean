/-
  Digest, the reference: the padded bytes.
-/
import Derived.Test.YtekboemijafplaaDoorTag
import Derived.Laws.BitsAllLaws
namespace Go.Proofs.YtekboemijafplaaDoor
open Go Go.RowKit
theorem grown_below2 {m : Nat} {w w1 w2 : World} {o : Option Nat} (h : Below m w w1) (hm : m ≤ w1.heap.size) (hg : w1.grownBy w2 o) (ho : ∀ k, o = some k → m ≤ k) : Below m w w2 :=
  ⟨hg.os.trans h.os, hg.tape.trans h.tape, hg.output.trans h.output, Nat.le_trans h.size hg.size, fun k hk => (hg.block k (by omega) (fun e => by have := ho k e.symm; omega)).trans (h.block k hk)⟩
theorem own_from {w : World} {v v' : Value} {m : Nat} (hv : ∀ j, v.ownBlock = some j → m ≤ j) (hm : m ≤ w.heap.size) (h : v'.ownBlock = v.ownBlock ∨ ∃ k, v'.ownBlock = some k ∧ w.heap.size ≤ k) : ∀ j, v'.ownBlock = some j → m ≤ j := fun j e => by
  rcases h with h | ⟨k, h, h'⟩
  · exact hv j (by rw [← h]; exact e)
  · rw [h] at e
    have e' : k = j := Option.some.inj e
    omega
theorem own_nil5 (w : World) : Own (w.alloc (.cells #[] 5)) (.slice (some ⟨w.heap.size, 0, none⟩) 0 0) (([] : List UInt8).map byt) := Own.made w #[] 5 0 (by simp) (by simp)
theorem bv_one (w : World) (c : UInt8) : BV (w.alloc (.cells #[byt c] 5)) (.slice (some ⟨w.heap.size, 0, none⟩) 1 1) [c] :=
  ⟨w.heap.size, 1, _, rfl, Nat.le_refl _, by omega, (fun e => by cases e), .inr ⟨0, rfl, by simp, fun j c' hj => by
    rw [Nat.zero_add, World.cell?_alloc_new]
    rcases j with _ | j
    · simp at hj
      simp [hj]
    · simp at hj⟩⟩
/-- the bytes of the length -/
def lens (m : Nat) (j : Nat) : List UInt8 := (List.range j).map fun t => cb m (7 - t)
theorem lens_len (m j : Nat) : (lens m j).length = j := by simp [lens]
theorem lens_succ (m j : Nat) : lens m (j + 1) = lens m j ++ [cb m (7 - j)] := by simp [lens, List.range_succ]
/-- how many zeros -/
def nz (n : Nat) : Nat := (119 - n % 64) % 64
/-- the padded bytes -/
def rp (l : List UInt8) : List UInt8 := (l ++ [128] ++ List.replicate (nz l.length) 0) ++ lens (l.length * 8) 8
def RPadR (l : List UInt8) (w : World) (e : Ending) (w' : World) : Prop := ∃ v, e = .returned v ∧ Own w' v ((rp l).map byt) ∧ Below w.heap.size w w' ∧ ∀ k, v.ownBlock = some k → w.heap.size ≤ k
set_option maxRecDepth 100000 in
set_option maxHeartbeats 1000000 in
theorem rpad_any (v : Value) (l : List UInt8) (w : World) (hv : BV w v l) (hl : l.length ≤ 1000000) : Calls Tryd.prog 32 #[v] w (RPadR l w) := by
  have HV := Lib.hid hv
  obtain ⟨b, cap, p, rfl, _⟩ := hv
  go_enter Tryd.func32, Tryd.ntmps32
  have B1 := Lib.hid (one_new w (.cells #[] 5))
  go_wp2_with (first
    | (have _ := B2; refine bytes_own rfl (.tmp 8) (.tmp 9) rfl v2 (.slice (some ⟨w2.heap.size, 0, none⟩) 1 1) l [128] rfl (O2.out.alloc _) rfl (bv_one w2 128) (by simp; omega) ?_; rintro v3 w3 O3 hg3 hv3; have hbx := B2.out.trans ((one_new w2 (.cells #[byt 128] 5)).mono B2.out.size); have B3 := Lib.hid (grown_below2 hbx hbx.size hg3 ob2); have ob3 := own_from ob2 hbx.size hv3; clear hg3 hv3 hbx)
    | (refine bytes_own rfl (.tmp 6) (.tmp 7) rfl (.slice (some ⟨w.heap.size, 0, none⟩) 0 0) (.slice p l.length cap) [] l rfl (own_nil5 w) rfl (HV.out.below B1.out) (by simp; omega) ?_; rintro v2 w2 O2 hg2 hv2; have B2 := Lib.hid (grown_below2 B1.out B1.out.size hg2 (fun k e => by cases e; exact Nat.le_refl _)); have ob2 := own_from (v := .slice (some ⟨w.heap.size, 0, none⟩) 0 0) (m := w.heap.size) (fun k e => by cases e; exact Nat.le_refl _) B1.out.size hv2; clear hg2 hv2))
  have hN : l.length ≤ 1000000 := hl
  generalize hn : l.length = n at *
  have hz : nz n < 64 := by unfold nz; omega
  have pre_len : ∀ j, ((l ++ [128] ++ List.replicate j (0 : UInt8)).map byt).length = n + 1 + j := fun j => by simp [hn]; omega
  have pre_suc : ∀ j, l ++ [128] ++ List.replicate j (0 : UInt8) ++ [0] = l ++ [128] ++ List.replicate (j + 1) (0 : UInt8) := fun j => by rw [List.append_assoc, ← List.replicate_succ']
  have PL := Lib.hid pre_len
  have PS := Lib.hid pre_suc
  obtain ⟨g3, c3, rfl, hlt3⟩ := O3.out.form (by simp)
  have O3' : Hid (Own w3 (.slice (some ⟨g3, 0, none⟩) (n + 1) c3) ((l ++ [128] ++ List.replicate 0 (0 : UInt8)).map byt)) := Lib.hid (by have := O3.out; simpa [hn] using this)
  have hg3' : w.heap.size ≤ g3 := ob3 g3 rfl
  have el : ((l ++ [128]).map byt).length = n + 1 := by simp [hn]
  rw [el]
  clear O3 O2 ob2 B2 ob3 pre_len pre_suc B1
  go_wp2_with fail
  go_loopw [3] (fun x wr => ∃ (j g c : Nat), j ≤ nz n ∧ x = .slice (some ⟨g, 0, none⟩) (n + 1 + j) c ∧ Hid (Own wr x ((l ++ [128] ++ List.replicate j (0 : UInt8)).map byt)) ∧ Hid (Below w.heap.size w wr) ∧ Hid (w.heap.size ≤ g)) (fun x _ => 2000000 - (match x with | .slice _ m _ => m | _ => 0))
  case atStart => exact ⟨0, g3, c3, Nat.zero_le _, rfl, O3', B3, Lib.hid hg3'⟩
  case round =>
    clear O3' B3 hg3'
    obtain ⟨j, g, c, hj, rfl, ho, hb, hg⟩ := hrel
    by_cases hlt : j < nz n
    · have c1 : ((((n + 1 + j : Nat) : Int)) % 64 == 56) = false := by unfold nz at hlt; simp; omega
      go_wp2_with (refine bytes_own rfl (.tmp 15) (.tmp 16) rfl (.slice (some ⟨g, 0, none⟩) (n + 1 + j) c) (.slice (some ⟨wr.heap.size, 0, none⟩) 1 1) (l ++ [128] ++ List.replicate j (0 : UInt8)) [0] rfl (ho.out.alloc _) rfl (bv_one wr 0) (by simp [hn]; omega) ?_; rintro v5 w5 O5 hg5 hv5)
      rw [PS.out] at O5
      obtain ⟨g', c', e5, hlt5⟩ := O5.out.form (by rw [PL.out]; omega)
      rw [PL.out] at e5
      have hbx := hb.out.trans ((one_new wr (.cells #[byt 0] 5)).mono hb.out.size)
      have ob5 := own_from (v := .slice (some ⟨g, 0, none⟩) (n + 1 + j) c) (m := w.heap.size) (fun k e => by cases e; exact hg.out) hbx.size hv5
      have hb5 := grown_below2 hbx hbx.size hg5 (fun k e => by cases e; exact hg.out)
      subst e5
      go_roundw
      case rel => exact ⟨j + 1, g', c', by omega, rfl, O5, Lib.hid hb5, Lib.hid (ob5 g' rfl)⟩
      case measure => simp; omega
    · have hj' : j = nz n := by omega
      have c1 : ((((n + 1 + j : Nat) : Int)) % 64 == 56) = true := by unfold nz at hj'; simp; omega
      subst hj'
      have ho' := Lib.hid ho.out
      clear ho
      go_wp2_with fail
      have hb0 : (((n : Int) + 1 + (nz n : Int)) % 64 != 56) = false := by assumption
      rw [hb0]
      go_loopw [3, 5] (fun x i wr' => ∃ (q : Nat), q ≤ 8 ∧ i = .int .i64 ((q : Int) - 1) ∧ Hid (Own wr' x (((l ++ [128] ++ List.replicate (nz n) (0 : UInt8)) ++ lens (n * 8) (8 - q)).map byt)) ∧ Hid (Below w.heap.size w wr') ∧ Hid (∀ k, x.ownBlock = some k → w.heap.size ≤ k)) (fun _ i _ => (intOf i + 1).toNat)
      case atStart => exact ⟨8, Nat.le_refl _, by first | rfl | (simp), Lib.hid (by have := ho'.out; simpa [lens] using this), hb, Lib.hid (fun k e => by cases e; exact hg.out)⟩
      case round =>
        clear ho' hb hg hlt c1
        obtain ⟨q, hq, rfl, ho, hb, hob⟩ := hrel
        by_cases hq0 : 1 ≤ q
        · obtain ⟨r, rfl⟩ : ∃ r, q = r + 1 := ⟨q - 1, by omega⟩
          rw [show (((r + 1 : Nat) : Int) - 1) = (r : Int) by omega]
          have i1 : (0 : Int) ≤ 8 * (r : Int) := by omega
          have i2 : (0 : Int) ≤ (r : Int) := by omega
          have hcb : byt (cb (n * 8) r) = .int .u8 ((n : Int) * 8 / 2 ^ (8 * r) % 256) := by
            unfold byt
            rw [cb_int]
            rfl
          have hbv := bv_one wr (cb (n * 8) r)
          rw [hcb] at hbv
          have HBV := Lib.hid hbv
          have hls := lens_succ (n * 8) (8 - (r + 1))
          rw [show 8 - (r + 1) + 1 = 8 - r by omega, show 7 - (8 - (r + 1)) = r by omega] at hls
          have HLS := Lib.hid hls
          clear hbv hcb hls
          go_wp2_with (refine bytes_own rfl (.tmp 26) (.tmp 32) rfl _ (.slice (some ⟨wr.heap.size, 0, none⟩) 1 1) ((l ++ [128] ++ List.replicate (nz n) (0 : UInt8)) ++ lens (n * 8) (8 - (r + 1))) [cb (n * 8) r] rfl (ho.out.alloc _) rfl HBV.out (by simp [hn, lens_len]; omega) ?_; rintro v6 w6 O6 hg6 hv6)
          rw [List.append_assoc, ← HLS.out] at O6
          have hbx := hb.out.trans ((one_new wr (.cells #[.int .u8 ((n : Int) * 8 / 2 ^ (8 * r) % 256)] 5)).mono hb.out.size)
          have ob6 := own_from hob.out hbx.size hv6
          have hb6 := grown_below2 hbx hbx.size hg6 hob.out
          go_roundw
          case rel => exact ⟨r, by omega, by go_num, O6, Lib.hid hb6, Lib.hid ob6⟩
          case measure => first | (simp [intOf]; done) | (simp [intOf]; omega)
        · obtain rfl : q = 0 := by omega
          go_wp2_with fail
          go_ret
          refine ⟨_, rfl, ?_, hb.out, hob.out⟩
          unfold rp
          rw [hn]
          exact ho.out
end Go.Proofs.YtekboemijafplaaDoor
